/- The document's family of pairs: New, Has, Inside, Meets, by contract. -/
import Derived.Test.YtmeiigcjfjapfaaDoorSetF
import Derived.Test.YtmeiigcjfjapfaaDoorSetN
import Derived.Laws.AppendOwn
import Derived.OwnWalk
namespace Go.Proofs.YtmeiigcjfjapfaaDoor.SetQ
open Go.RowKit Go.Lib Go.Proofs Go.Proofs.YtmeiigcjfjapfaaDoor.SetPop Go.Proofs.YtmeiigcjfjapfaaDoor.SetA Go.Proofs.YtmeiigcjfjapfaaDoor.SetB Go.Proofs.YtmeiigcjfjapfaaDoor.SetF Go.Proofs.YtmeiigcjfjapfaaDoor.SetN
set_option linter.unusedVariables false
set_option linter.unusedSimpArgs false
/-- Pairs as cells. -/
def encP : List (Int × Int) → List Value
  | [] => []
  | p :: l => .int .i64 p.1 :: .int .i64 p.2 :: encP l
theorem encP_len : ∀ l, (encP l).length = l.length * 2
  | [] => rfl
  | p :: l => by simp [encP, encP_len l]; omega
theorem encP_app : ∀ l k, encP (l ++ k) = encP l ++ encP k
  | [], _ => rfl
  | p :: l, k => by simp [encP, encP_app l k]
theorem encP_at : ∀ (l : List (Int × Int)) (j : Nat) (h : j < l.length), (encP l)[j * 2]? = some (.int .i64 l[j].1) ∧ (encP l)[j * 2 + 1]? = some (.int .i64 l[j].2)
  | [], _, h => absurd h (Nat.not_lt_zero _)
  | p :: l, 0, _ => ⟨rfl, rfl⟩
  | p :: l, j + 1, h => by
    have := encP_at l j (by simpa using h)
    have e : (j + 1) * 2 = j * 2 + 1 + 1 := by omega
    rw [e]
    simpa [encP] using this
/-- The block X holds n, c and a slice of the pairs L; all of it lies from B0 on and below T. -/
structure RF (w : World) (B0 T X n c : Nat) (L : List (Int × Int)) : Prop where
  ex : ∃ v, w.heap[X]? = some (.cells #[.int .i64 n, .int .i64 c, v] 31 (0, 0)) ∧ w.ownsRow B0 27 2 v L.length (encP L) ∧ ∀ g, v.ownBlock = some g → g ≠ X ∧ g < T
  lo : B0 ≤ X
  hi : X < T
theorem prG_own {w : World} {B : Nat} {v : Value} {L : List (Int × Int)} {t : TypeId} (h : w.ownsRow B t 2 v L.length (encP L)) : ∃ A ca, v = .slice A L.length ca ∧ PrG w A L := by
  have h0 := h
  rcases h.2 with ⟨rfl, hn⟩ | ⟨g, cap, cur, rfl, hb, hg, _⟩
  · exact ⟨none, 0, by rw [hn], fun hp => by omega⟩
  · refine ⟨_, cap, rfl, fun hp => ⟨g, 0, rfl, (Array.getElem?_eq_some_iff.1 hg).1, fun j hj => ?_⟩⟩
    have k := h0.cells (g := g) rfl
    obtain ⟨a, b⟩ := encP_at L j hj
    have e : ∀ i, ((⟨g, 0, none⟩ : Addr).add i) = ⟨g, i, none⟩ := fun i => by unfold Addr.add; split <;> simp_all
    have k1 := k _ _ a
    have k2 := k _ _ b
    rw [e] at k1 k2
    rw [Nat.zero_add]
    exact ⟨k1, k2⟩
/-- What a reader wants of it. -/
structure RD (w : World) (X n c : Nat) (A : Option Addr) (ca : Nat) (L : List (Int × Int)) : Prop where
  hX : w.heap[X]? = some (.cells #[.int .i64 n, .int .i64 c, .slice A L.length ca] 31 (0, 0))
  pr : PrG w A L
theorem RF.rd {w : World} {B0 T X n c : Nat} {L : List (Int × Int)} (h : RF w B0 T X n c L) : ∃ A ca, RD w X n c A ca L := by
  obtain ⟨v, h1, h2, h3⟩ := h.ex
  obtain ⟨A, ca, rfl, hp⟩ := prG_own h2
  exact ⟨A, ca, h1, hp⟩
theorem RD.below {w w' : World} {X n c : Nat} {A : Option Addr} {ca : Nat} {L : List (Int × Int)} (h : RD w X n c A ca L) (hb : Below w.heap.size w w') : RD w' X n c A ca L :=
  ⟨(hb.block X (Array.getElem?_eq_some_iff.1 h.hX).1).trans h.hX, h.pr.below hb⟩
theorem RD.cell {w : World} {X n c : Nat} {A : Option Addr} {ca : Nat} {L : List (Int × Int)} (h : RD w X n c A ca L) : w.cell? ⟨X, 0, none⟩ = some (.int .i64 n) ∧ w.cell? ⟨X, 1, none⟩ = some (.int .i64 c) ∧ w.cell? ⟨X, 2, none⟩ = some (.slice A L.length ca) := by
  refine ⟨?_, ?_, ?_⟩ <;> (rw [Lib.cell_of_heap h.hX]; rfl)
theorem RF.keep {w w' : World} {B0 T X n c : Nat} {L : List (Int × Int)} (h : RF w B0 T X n c L) (hk : ∀ b, B0 ≤ b → b < T → w'.heap[b]? = w.heap[b]?) : RF w' B0 T X n c L := by
  obtain ⟨v, h1, h2, h3⟩ := h.ex
  refine ⟨⟨v, by rw [hk X h.lo h.hi]; exact h1, ⟨h2.1, ?_⟩, h3⟩, h.lo, h.hi⟩
  rcases h2.2 with h0 | ⟨g, cap, cur, rfl, hB, hh, hc⟩
  · exact .inl h0
  · refine .inr ⟨g, cap, cur, rfl, hB, ?_, hc⟩
    rw [hk g hB (h3 g rfl).2]
    exact hh
theorem RF.mono {w : World} {B0 T T' X n c : Nat} {L : List (Int × Int)} (h : RF w B0 T X n c L) (ht : T ≤ T') : RF w B0 T' X n c L := by
  obtain ⟨v, h1, h2, h3⟩ := h.ex
  exact ⟨⟨v, h1, h2, fun g hg => ⟨(h3 g hg).1, Nat.lt_of_lt_of_le (h3 g hg).2 ht⟩⟩, h.lo, Nat.lt_of_lt_of_le h.hi ht⟩
theorem RF.below {w w' : World} {B0 T X n c : Nat} {L : List (Int × Int)} (h : RF w B0 T X n c L) (hT : T ≤ w.heap.size) (hb : Below w.heap.size w w') : RF w' B0 T X n c L :=
  h.keep fun b _ hb2 => hb.block b (by omega)
def NewRPost (n c : Nat) (w : World) (e : Ending) (w' : World) : Prop := ∃ X, e = .returned (.pointer (some ⟨X, 0, none⟩)) ∧ RF w' w.heap.size w'.heap.size X n c [] ∧ Below w.heap.size w w'
theorem newEnd {n c : Nat} {w : World} (a b : Int) (ha : a = n) (hb : b = c) : NewRPost n c w (.returned (.pointer (some ⟨w.heap.size, 0, none⟩))) (w.alloc (.cells #[.int .i64 a, .int .i64 b, .slice none 0 0] 31)) := by
  subst ha; subst hb
  exact ⟨_, rfl, ⟨⟨_, heap_alloc_new w _, World.ownsRow_nil _ _ _ _, fun g hg => by simp [Value.ownBlock] at hg⟩, Nat.le_refl _, by simp⟩, (Below.refl _ w).alloc (Nat.le_refl _) _⟩
set_option maxRecDepth 100000 in
theorem newRef (rows cols : Int) (n c : Nat) (w : World) (hn : (within rows 5000).toNat = n) (hc : (within cols 1000).toNat = c) : Calls Tryd.prog 6 #[.int .i64 rows, .int .i64 cols] w (NewRPost n c w) := by
  have HN := Lib.hid hn
  have HC := Lib.hid hc
  clear hn hc
  go_enter Tryd.func6, Tryd.ntmps6
  go_wp2_with fail
  all_goals
    go_ret
    refine newEnd _ _ ?_ ?_
    · have hn := HN.out
      unfold within at hn
      omega
    · have hc := HC.out
      unfold within at hc
      omega
set_option maxHeartbeats 1000000 in
set_option maxRecDepth 100000 in
theorem hasRef (X n c : Nat) (A : Option Addr) (ca : Nat) (L : List (Int × Int)) (r k : Int) (w : World) (h : RD w X n c A ca L) (hL : L.length ≤ 1000) : Calls Tryd.prog 10 #[.pointer (some ⟨X, 0, none⟩), .int .i64 r, .int .i64 k] w fun e w' => e = .returned (.bool (hasL L r k)) ∧ Below w.heap.size w w' := by
  obtain ⟨c0, c1, c2⟩ := h.cell
  have HP := Lib.hid h.pr
  have HY : Hid (∀ j, (hj : j < L.length) → L[j].1 = r → L[j].2 = k → hasL L r k = true) := Lib.hid (fun j hj h1 h2 => hasL_iff.2 (by rw [← h1, ← h2]; exact List.getElem_mem hj))
  have HZ : Hid (∀ j, (hj : j < L.length) → ¬ (L[j].1 = r ∧ L[j].2 = k) → hasL (L.take j) r k = false → hasL (L.take (j + 1)) r k = false) := Lib.hid (fun j hj h1 h2 => by
    rw [List.take_succ_eq_append_getElem hj]
    unfold hasL at h2 ⊢
    rw [List.any_append, h2]
    simpa using h1)
  clear h
  go_enter Tryd.func10, Tryd.ntmps10
  go_wp2_with fail
  go_loopw [14] (fun i wr => ∃ j : Nat, j ≤ L.length ∧ i = .int .i64 j ∧ Hid (hasL (L.take j) r k = false) ∧ Below w.heap.size w wr) (fun i _ => L.length - (intOf i).toNat)
  case atStart => exact ⟨0, by omega, rfl, Lib.hid (by simp [hasL]), Below.refl _ _⟩
  case round =>
    clear c0 c1 c2
    obtain ⟨j, hj, rfl, hno, hb⟩ := hrel
    by_cases hlt : j < L.length
    · have d1 : decide ((j : Int) < L.length) = true := by simp; omega
      have p0 : (0 : Int) ≤ j := by omega
      have p1 : (j : Int) < L.length := by omega
      obtain ⟨g, o, rfl, hg, hcell⟩ := (HP.out.below hb) (by omega)
      obtain ⟨a0, a1⟩ := hcell j hlt
      have hbk := hb.alloc hb.size (.cells #[.int .i64 L[j].1, .int .i64 L[j].2] 27)
      have HBk := Lib.hid hbk
      have HYj := Lib.hid (HY.out j hlt)
      have HZj := Lib.hid (fun h => HZ.out j hlt h hno.out)
      clear hcell hb hbk hno
      generalize L[j].1 = x at *
      generalize L[j].2 = y at *
      by_cases h1 : x = r
      · have e1 : (x == r) = true := by simp [h1]
        by_cases h2 : y = k
        · have e2 : (y == k) = true := by simp [h2]
          have hT := HYj.out h1 h2
          have HTT := Lib.hid hT
          clear h1 h2 hT HYj HZj
          go_wp2_with fail
          go_ret
          exact ⟨by (rw [HTT.out]) <;> rfl, HBk.out⟩
        · have e2 : (y == k) = false := by simp [h2]
          have HN := Lib.hid (HZj.out (fun h => h2 h.2))
          clear h1 h2 HYj HZj
          go_wp2_with fail
          go_roundw
          case rel => exact ⟨j + 1, by omega, by go_num, HN, HBk.out⟩
          case measure => simp [intOf]; omega
      · have e1 : (x == r) = false := by simp [h1]
        have HN := Lib.hid (HZj.out (fun h => h1 h.1))
        clear h1 HYj HZj
        go_wp2_with fail
        go_roundw
        case rel => exact ⟨j + 1, by omega, by go_num, HN, HBk.out⟩
        case measure => simp [intOf]; omega
    · have d1 : decide ((j : Int) < L.length) = false := by simp; omega
      have hT : hasL L r k = false := by
        have := hno.out
        rwa [List.take_of_length_le (by omega)] at this
      have HTT := Lib.hid hT
      have HB := Lib.hid hb
      clear hb hno hT HY HZ
      go_wp2_with fail
      go_ret
      exact ⟨by (rw [HTT.out]) <;> rfl, HB.out⟩
def BoolPost (b : Bool) (w : World) (e : Ending) (w' : World) : Prop := e = .returned (.bool b) ∧ Below w.heap.size w w'
set_option maxHeartbeats 1000000 in
set_option maxRecDepth 100000 in
theorem insideRef (X n c : Nat) (A : Option Addr) (ca : Nat) (L : List (Int × Int)) (r q : Int) (w : World) (h : RD w X n c A ca L) (hL : L.length ≤ 1000) : Calls Tryd.prog 15 #[.pointer (some ⟨X, 0, none⟩), .int .i64 r, .int .i64 q] w (BoolPost (insideL L r q) w) := by
  unfold BoolPost
  obtain ⟨c0, c1, c2⟩ := h.cell
  have HR := Lib.hid h
  have HH := Lib.hid (fun k wx (hx : RD wx X n c A ca L) => hasRef X n c A ca L q k wx hx hL)
  have HY : Hid (∀ j, (hj : j < L.length) → L[j].1 = r → hasL L q L[j].2 = false → insideL L r q = false) := Lib.hid (fun j hj h1 h2 => by
    rw [Bool.eq_false_iff]
    intro ht
    unfold insideL at ht
    rw [List.all_eq_true] at ht
    have := ht _ (List.getElem_mem hj)
    rw [h1, h2] at this
    simp at this)
  have HZ : Hid (∀ j, (hj : j < L.length) → (L[j].1 = r → hasL L q L[j].2 = true) → ((L.take j).all fun x => !decide (x.1 = r) || hasL L q x.2) = true → ((L.take (j + 1)).all fun x => !decide (x.1 = r) || hasL L q x.2) = true) := Lib.hid (fun j hj h1 h2 => by
    rw [List.take_succ_eq_append_getElem hj, List.all_append, h2]
    by_cases e : L[j].1 = r
    · simp [h1 e]
    · simp [e])
  have HE : Hid (((L.take L.length).all fun x => !decide (x.1 = r) || hasL L q x.2) = true → insideL L r q = true) := Lib.hid (fun h => by
    rw [List.take_length] at h; exact h)
  clear h
  generalize hG : (fun j => ((L.take j).all fun x => !decide (x.1 = r) || hasL L q x.2)) = G at *
  have HG0 : Hid (G 0 = true) := Lib.hid (by rw [← hG]; rfl)
  have HZ2 : Hid (∀ j, (hj : j < L.length) → (L[j].1 = r → hasL L q L[j].2 = true) → G j = true → G (j + 1) = true) := Lib.hid (by rw [← hG]; exact HZ.out)
  have HE2 : Hid (G L.length = true → insideL L r q = true) := Lib.hid (by rw [← hG]; exact HE.out)
  clear HZ HE hG
  go_enter Tryd.func15, Tryd.ntmps15
  go_wp2_with fail
  go_loopw [14] (fun i wr => ∃ j : Nat, j ≤ L.length ∧ i = .int .i64 j ∧ Hid (G j = true) ∧ Below w.heap.size w wr) (fun i _ => L.length - (intOf i).toNat)
  case atStart => exact ⟨0, by omega, rfl, HG0, Below.refl _ _⟩
  case round =>
    clear c0 c1 c2
    obtain ⟨j, hj, rfl, hno, hb⟩ := hrel
    by_cases hlt : j < L.length
    · have d1 : decide ((j : Int) < L.length) = true := by simp; omega
      have p0 : (0 : Int) ≤ j := by omega
      have p1 : (j : Int) < L.length := by omega
      obtain ⟨g, o, rfl, hg, hcell⟩ := (HR.out.below hb).pr (by omega)
      obtain ⟨a0, a1⟩ := hcell j hlt
      have hbk := hb.alloc hb.size (.cells #[.int .i64 L[j].1, .int .i64 L[j].2] 27)
      have HRk := Lib.hid (HR.out.below hbk)
      have HBk := Lib.hid hbk
      have HYj := Lib.hid (HY.out j hlt)
      have HZj := Lib.hid (fun h => HZ2.out j hlt h hno.out)
      have HHj := Lib.hid (fun wx hx => HH.out L[j].2 wx hx)
      clear hcell hb hbk hno
      generalize L[j].1 = x at *
      generalize L[j].2 = y at *
      by_cases h1 : x = r
      · have e1 : (x == r) = true := by simp [h1]
        cases h2 : hasL L q y with
        | true =>
          rw [h2] at HHj
          have HN := Lib.hid (HZj.out (fun _ => h2))
          clear h1 h2 HYj HZj
          go_wp2_with fail
          refine (HHj.out _ HRk.out).mono ?_
          rintro e w2 ⟨rfl, hb2⟩
          have HB2 := Lib.hid (HBk.out.trans (hb2.mono HBk.out.size))
          clear hb2
          go_wp2_with fail
          go_roundw
          case rel => exact ⟨j + 1, by omega, by go_num, HN, HB2.out⟩
          case measure => simp [intOf]; omega
        | false =>
          rw [h2] at HHj
          have hT := HYj.out h1 h2
          have HTT := Lib.hid hT
          clear h1 h2 hT HYj HZj
          go_wp2_with fail
          refine (HHj.out _ HRk.out).mono ?_
          rintro e w2 ⟨rfl, hb2⟩
          have HB2 := Lib.hid (HBk.out.trans (hb2.mono HBk.out.size))
          clear hb2
          go_wp2_with fail
          go_ret
          exact ⟨by (rw [HTT.out]) <;> rfl, HB2.out⟩
      · have e1 : (x == r) = false := by simp [h1]
        have HN := Lib.hid (HZj.out (fun h => absurd h h1))
        clear h1 HYj HZj HHj
        go_wp2_with fail
        go_roundw
        case rel => exact ⟨j + 1, by omega, by go_num, HN, HBk.out⟩
        case measure => simp [intOf]; omega
    · have d1 : decide ((j : Int) < L.length) = false := by simp; omega
      have hT : insideL L r q = true := HE2.out (by have := hno.out; rwa [show j = L.length by omega] at this)
      have HTT := Lib.hid hT
      have HB := Lib.hid hb
      clear hb hno hT HY HZ2 HE2
      go_wp2_with fail
      go_ret
      exact ⟨by (rw [HTT.out]) <;> rfl, HB.out⟩
set_option maxHeartbeats 1000000 in
set_option maxRecDepth 100000 in
theorem meetsRef (X n c : Nat) (A : Option Addr) (ca : Nat) (L : List (Int × Int)) (r q : Int) (w : World) (h : RD w X n c A ca L) (hL : L.length ≤ 1000) : Calls Tryd.prog 17 #[.pointer (some ⟨X, 0, none⟩), .int .i64 r, .int .i64 q] w (BoolPost (meetsL L r q) w) := by
  unfold BoolPost
  obtain ⟨c0, c1, c2⟩ := h.cell
  have HR := Lib.hid h
  have HH := Lib.hid (fun k wx (hx : RD wx X n c A ca L) => hasRef X n c A ca L q k wx hx hL)
  have HY : Hid (∀ j, (hj : j < L.length) → L[j].1 = r → hasL L q L[j].2 = true → meetsL L r q = true) := Lib.hid (fun j hj h1 h2 => by
    unfold meetsL
    rw [List.any_eq_true]
    exact ⟨_, List.getElem_mem hj, by simp [h1, h2]⟩)
  have HZ : Hid (∀ j, (hj : j < L.length) → (L[j].1 = r → hasL L q L[j].2 = false) → ((L.take j).any fun x => decide (x.1 = r) && hasL L q x.2) = false → ((L.take (j + 1)).any fun x => decide (x.1 = r) && hasL L q x.2) = false) := Lib.hid (fun j hj h1 h2 => by
    rw [List.take_succ_eq_append_getElem hj, List.any_append, h2]
    by_cases e : L[j].1 = r
    · simp [h1 e]
    · simp [e])
  have HE : Hid (((L.take L.length).any fun x => decide (x.1 = r) && hasL L q x.2) = false → meetsL L r q = false) := Lib.hid (fun h => by
    rw [List.take_length] at h; exact h)
  clear h
  generalize hG : (fun j => ((L.take j).any fun x => decide (x.1 = r) && hasL L q x.2)) = G at *
  have HG0 : Hid (G 0 = false) := Lib.hid (by rw [← hG]; rfl)
  have HZ2 : Hid (∀ j, (hj : j < L.length) → (L[j].1 = r → hasL L q L[j].2 = false) → G j = false → G (j + 1) = false) := Lib.hid (by rw [← hG]; exact HZ.out)
  have HE2 : Hid (G L.length = false → meetsL L r q = false) := Lib.hid (by rw [← hG]; exact HE.out)
  clear HZ HE hG
  go_enter Tryd.func17, Tryd.ntmps17
  go_wp2_with fail
  go_loopw [14] (fun i wr => ∃ j : Nat, j ≤ L.length ∧ i = .int .i64 j ∧ Hid (G j = false) ∧ Below w.heap.size w wr) (fun i _ => L.length - (intOf i).toNat)
  case atStart => exact ⟨0, by omega, rfl, HG0, Below.refl _ _⟩
  case round =>
    clear c0 c1 c2
    obtain ⟨j, hj, rfl, hno, hb⟩ := hrel
    by_cases hlt : j < L.length
    · have d1 : decide ((j : Int) < L.length) = true := by simp; omega
      have p0 : (0 : Int) ≤ j := by omega
      have p1 : (j : Int) < L.length := by omega
      obtain ⟨g, o, rfl, hg, hcell⟩ := (HR.out.below hb).pr (by omega)
      obtain ⟨a0, a1⟩ := hcell j hlt
      have hbk := hb.alloc hb.size (.cells #[.int .i64 L[j].1, .int .i64 L[j].2] 27)
      have HRk := Lib.hid (HR.out.below hbk)
      have HBk := Lib.hid hbk
      have HYj := Lib.hid (HY.out j hlt)
      have HZj := Lib.hid (fun h => HZ2.out j hlt h hno.out)
      have HHj := Lib.hid (fun wx hx => HH.out L[j].2 wx hx)
      clear hcell hb hbk hno
      generalize L[j].1 = x at *
      generalize L[j].2 = y at *
      by_cases h1 : x = r
      · have e1 : (x == r) = true := by simp [h1]
        cases h2 : hasL L q y with
        | false =>
          rw [h2] at HHj
          have HN := Lib.hid (HZj.out (fun _ => h2))
          clear h1 h2 HYj HZj
          go_wp2_with fail
          refine (HHj.out _ HRk.out).mono ?_
          rintro e w2 ⟨rfl, hb2⟩
          have HB2 := Lib.hid (HBk.out.trans (hb2.mono HBk.out.size))
          clear hb2
          go_wp2_with fail
          go_roundw
          case rel => exact ⟨j + 1, by omega, by go_num, HN, HB2.out⟩
          case measure => simp [intOf]; omega
        | true =>
          rw [h2] at HHj
          have hT := HYj.out h1 h2
          have HTT := Lib.hid hT
          clear h1 h2 hT HYj HZj
          go_wp2_with fail
          refine (HHj.out _ HRk.out).mono ?_
          rintro e w2 ⟨rfl, hb2⟩
          have HB2 := Lib.hid (HBk.out.trans (hb2.mono HBk.out.size))
          clear hb2
          go_wp2_with fail
          go_ret
          exact ⟨by (rw [HTT.out]) <;> rfl, HB2.out⟩
      · have e1 : (x == r) = false := by simp [h1]
        have HN := Lib.hid (HZj.out (fun h => absurd h h1))
        clear h1 HYj HZj HHj
        go_wp2_with fail
        go_roundw
        case rel => exact ⟨j + 1, by omega, by go_num, HN, HBk.out⟩
        case measure => simp [intOf]; omega
    · have d1 : decide ((j : Int) < L.length) = false := by simp; omega
      have hT : meetsL L r q = false := HE2.out (by have := hno.out; rwa [show j = L.length by omega] at this)
      have HTT := Lib.hid hT
      have HB := Lib.hid hb
      clear hb hno hT HY HZ2 HE2
      go_wp2_with fail
      go_ret
      exact ⟨by (rw [HTT.out]) <;> rfl, HB.out⟩
end Go.Proofs.YtmeiigcjfjapfaaDoor.SetQ
