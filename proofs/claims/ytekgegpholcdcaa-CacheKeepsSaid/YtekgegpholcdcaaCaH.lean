/- The cache: what was put, in order; what was put last of a question; the law's search for it. -/
import Derived.Test.YtekgegpholcdcaaCaE
import Derived.ChangeKeysEq
import Derived.Deep.CutBlock
import Derived.Deep.LoopGhost
import Derived.Deep.WholeRow
namespace Go.Proofs.Ytekgegpholcdcaa.CaH
open Go.RowKit Go.Lib Go.Proofs Go.Proofs.Ytekgegpholcdcaa.CaA Go.Proofs.Ytekgegpholcdcaa.CaB Go.Proofs.Ytekgegpholcdcaa.CaC Go.Proofs.Ytekgegpholcdcaa.CaD
set_option linter.unusedVariables false
set_option linter.unusedSimpArgs false
/-- The first answer to a question in a row. -/
def look : List (Qn × Int) → Qn → Option Int
  | [], _ => none
  | u :: l, q => if u.1 = q then some u.2 else look l q
def lastP (P : List (Qn × Int)) (q : Qn) : Option Int := look P.reverse q
theorem look_at : ∀ (R : List (Qn × Int)) (q : Qn) (i : Nat) (h : i < R.length), R[i].1 = q → (∀ t, (ht : t < i) → (R[t]'(by omega)).1 ≠ q) → look R q = some R[i].2
  | [], _, _, h, _, _ => absurd h (by simp)
  | u :: l, q, 0, _, e, _ => by
    unfold look
    rw [if_pos (by simpa using e)]
    rfl
  | u :: l, q, i + 1, h, e, hn => by
    unfold look
    rw [if_neg (show ¬ u.1 = q from hn 0 (by omega))]
    exact look_at l q i (by simpa using h) (by simpa using e) (fun t ht => hn (t + 1) (by omega))
theorem look_none : ∀ (R : List (Qn × Int)) (q : Qn), (∀ t, (ht : t < R.length) → R[t].1 ≠ q) → look R q = none
  | [], _, _ => rfl
  | u :: l, q, hn => by
    unfold look
    rw [if_neg (show ¬ u.1 = q from hn 0 (by simp))]
    exact look_none l q (fun t ht => hn (t + 1) (by simpa using ht))
theorem lastP_snoc (P : List (Qn × Int)) (k : Qn) (a : Int) (q : Qn) : lastP (P ++ [(k, a)]) q = if k = q then some a else lastP P q := by
  unfold lastP
  rw [List.reverse_append]
  rfl
/-- The places hold what was put last; what was put last of all is there. -/
structure Inv (k : Nat) (M : Nat → Pl) (P : List (Qn × Int)) : Prop where
  at_ : ∀ i, (M i).kept = true → ix k (M i).q = i ∧ lastP P (M i).q = some (M i).ans
  last : ∀ q a P', P = P' ++ [(q, a)] → (M (ix k q)).kept = true ∧ (M (ix k q)).q = q
theorem Inv.start (k : Nat) : Inv k (fun _ => Pl.zero) [] := ⟨(fun i h => by cases h), (fun q a P' h => by simp at h)⟩
theorem Inv.put {k : Nat} {M : Nat → Pl} {P : List (Qn × Int)} (h : Inv k M P) (q : Qn) (a : Int) : Inv k (upd M (ix k q) ⟨q, a, true⟩) (P ++ [(q, a)]) := by
  refine ⟨fun i hi => ?_, fun q' a' P' e => ?_⟩
  · unfold upd at hi ⊢
    by_cases e : i = ix k q
    · rw [if_pos e]
      exact ⟨e.symm, by rw [lastP_snoc, if_pos rfl]⟩
    · rw [if_neg e] at hi ⊢
      obtain ⟨h1, h2⟩ := h.at_ i hi
      refine ⟨h1, ?_⟩
      rw [lastP_snoc, if_neg (fun e2 => e (by rw [e2]; exact h1.symm))]
      exact h2
  · have h1 := List.append_inj_right' e rfl
    injection h1 with h1
    injection h1 with h1 h2
    subst h1
    unfold upd
    rw [if_pos rfl]
    exact ⟨rfl, rfl⟩
/-- A row of what was put, in memory. -/
def enc5 (u : Qn × Int) : List Value := [.int .i64 u.1.op, .int .i64 u.1.a, .int .i64 u.1.b, .int .i64 u.1.d, .int .i64 u.2]
def encP (P : List (Qn × Int)) : List Value := P.flatMap enc5
theorem encP_snoc (P : List (Qn × Int)) (u : Qn × Int) : encP (P ++ [u]) = encP P ++ enc5 u := by unfold encP; simp
theorem encP_get : ∀ (P : List (Qn × Int)) (j c : Nat) (h : j < P.length), c < 5 → (encP P)[j * 5 + c]? = (enc5 P[j])[c]?
  | [], _, _, h, _ => absurd h (by simp)
  | u :: l, 0, c, _, hc => by
    show (enc5 u ++ encP l)[0 * 5 + c]? = _
    rw [List.getElem?_append_left (by show 0 * 5 + c < 5; omega)]
    simp
  | u :: l, j + 1, c, h, hc => by
    show (enc5 u ++ encP l)[(j + 1) * 5 + c]? = _
    rw [List.getElem?_append_right (by show 5 ≤ _; omega), show (j + 1) * 5 + c - (enc5 u).length = j * 5 + c by show _ - 5 = _; omega]
    exact encP_get l j c (by simpa using h) hc
def UG (w : World) (A : Option Addr) (P : List (Qn × Int)) : Prop :=
  0 < P.length → ∃ g, A = some ⟨g, 0, none⟩ ∧ g < w.heap.size ∧ ∀ j, (h : j < P.length) → w.cell? ⟨g, j * 5, none⟩ = some (.int .i64 P[j].1.op) ∧ w.cell? ⟨g, j * 5 + 1, none⟩ = some (.int .i64 P[j].1.a) ∧ w.cell? ⟨g, j * 5 + 2, none⟩ = some (.int .i64 P[j].1.b) ∧ w.cell? ⟨g, j * 5 + 3, none⟩ = some (.int .i64 P[j].1.d) ∧ w.cell? ⟨g, j * 5 + 4, none⟩ = some (.int .i64 P[j].2)
theorem UG.below {w w' : World} {A : Option Addr} {P : List (Qn × Int)} (h : UG w A P) (hb : Below w.heap.size w w') : UG w' A P := fun hp => by
  obtain ⟨g, hA, hg, hc⟩ := h hp
  have e : ∀ o, w'.cell? ⟨g, o, none⟩ = w.cell? ⟨g, o, none⟩ := fun o => hb.cell (p := ⟨g, o, none⟩) hg
  exact ⟨g, hA, Nat.lt_of_lt_of_le hg hb.size, fun j hj => by rw [e, e, e, e, e]; exact hc j hj⟩
theorem own_below {w w' : World} {B n : Nat} {e : TypeId} {k : Nat} {v : Value} {xs : List Value} (h : w.ownsRow B e k v n xs) (hb : Below w.heap.size w w') : w'.ownsRow B e k v n xs :=
  h.kept (World.grownBy.mk hb.os hb.tape hb.output hb.size (fun k hk _ => hb.block k hk) : w.grownBy w' none) (by cases hv : v.ownBlock <;> simp)
theorem ug_own {w : World} {B : Nat} {v : Value} {P : List (Qn × Int)} {t : TypeId} (h : w.ownsRow B t 5 v P.length (encP P)) : ∃ A ca, v = .slice A P.length ca ∧ UG w A P ∧ P.length ≤ ca ∧ ca ≤ maxLen ∧ ∀ a, A = some a → B ≤ a.block := by
  have h0 := h
  rcases h.2 with ⟨rfl, hn⟩ | ⟨g, cap, cur, rfl, hb, hg, hle, hmx, _⟩
  · exact ⟨none, 0, by rw [hn], fun hp => by omega, by omega, by simp [maxLen], fun a h => by cases h⟩
  · refine ⟨_, cap, rfl, fun hp => ⟨g, rfl, (Array.getElem?_eq_some_iff.1 hg).1, fun j hj => ?_⟩, hle, hmx, fun a e => by injection e with e; subst e; exact hb⟩
    have key : ∀ c, c < 5 → ∀ u, (enc5 P[j])[c]? = some u → w.cell? ⟨g, j * 5 + c, none⟩ = some u := fun c hc u hu => by
      have k := h0.cells (g := g) rfl (j * 5 + c) u (by rw [encP_get P j c hj hc]; exact hu)
      have e : ((⟨g, 0, none⟩ : Addr).add (j * 5 + c)) = ⟨g, j * 5 + c, none⟩ := by unfold Addr.add; split <;> simp_all
      rw [e] at k
      exact k
    exact ⟨key 0 (by omega) _ rfl, key 1 (by omega) _ rfl, key 2 (by omega) _ rfl, key 3 (by omega) _ rfl, key 4 (by omega) _ rfl⟩
/-- Two rows of four numbers that are compared. -/
theorem eqI (d : Nat) (a b : Int) (w : World) : (Op.equalIn (d + 1) 3 (.int .i64 a) (.int .i64 b)).run Try.prog w = .ok (a == b) w := by
  simp [Op.equalIn, run_underlying Try.underlying3]
theorem keyI : (Try.prog).plainKey 3 = true := by kernel_rfl
theorem cellsI : (Try.prog).cellsOf 3 = 1 := by kernel_rfl
theorem infoI : ∃ i, (Try.prog).info? 3 = some i := by
  cases h : (Try.prog).info? 3 with
  | none => exact absurd h (by intro h; have : ((Try.prog).info? 3).isSome = true := by kernel_rfl
                               rw [h] at this; cases this)
  | some i => exact ⟨i, rfl⟩
theorem eqK (a b c d a2 b2 c2 d2 : Int) (w : World) : (binOp .eql 52 (.agg #[.int .i64 a, .int .i64 b, .int .i64 c, .int .i64 d]) (.agg #[.int .i64 a2, .int .i64 b2, .int .i64 c2, .int .i64 d2])).run Try.prog w = .ok (.bool (decide ((⟨a, b, c, d⟩ : Qn) = ⟨a2, b2, c2, d2⟩))) w := by
  obtain ⟨i, hi⟩ := infoI
  have h := run_equalIn_array (P := Try.prog) w 9999 #[.int .i64 a, .int .i64 b, .int .i64 c, .int .i64 d] #[.int .i64 a2, .int .i64 b2, .int .i64 c2, .int .i64 d2] Try.underlying52 hi
  have h2 : (Op.equalIn 10000 52 (.agg #[.int .i64 a, .int .i64 b, .int .i64 c, .int .i64 d]) (.agg #[.int .i64 a2, .int .i64 b2, .int .i64 c2, .int .i64 d2])).run Try.prog w = .ok (decide ((⟨a, b, c, d⟩ : Qn) = ⟨a2, b2, c2, d2⟩)) w := by
    refine h.trans ?_
    rw [cellsI]
    have p0 := run_part_plain (P := Try.prog) w keyI (xs := #[.int .i64 a, .int .i64 b, .int .i64 c, .int .i64 d]) (off := 0) (v := .int .i64 a) rfl
    have p1 := run_part_plain (P := Try.prog) w keyI (xs := #[.int .i64 a, .int .i64 b, .int .i64 c, .int .i64 d]) (off := 1) (v := .int .i64 b) rfl
    have p2 := run_part_plain (P := Try.prog) w keyI (xs := #[.int .i64 a, .int .i64 b, .int .i64 c, .int .i64 d]) (off := 2) (v := .int .i64 c) rfl
    have p3 := run_part_plain (P := Try.prog) w keyI (xs := #[.int .i64 a, .int .i64 b, .int .i64 c, .int .i64 d]) (off := 3) (v := .int .i64 d) rfl
    have q0 := run_part_plain (P := Try.prog) w keyI (xs := #[.int .i64 a2, .int .i64 b2, .int .i64 c2, .int .i64 d2]) (off := 0) (v := .int .i64 a2) rfl
    have q1 := run_part_plain (P := Try.prog) w keyI (xs := #[.int .i64 a2, .int .i64 b2, .int .i64 c2, .int .i64 d2]) (off := 1) (v := .int .i64 b2) rfl
    have q2 := run_part_plain (P := Try.prog) w keyI (xs := #[.int .i64 a2, .int .i64 b2, .int .i64 c2, .int .i64 d2]) (off := 2) (v := .int .i64 c2) rfl
    have q3 := run_part_plain (P := Try.prog) w keyI (xs := #[.int .i64 a2, .int .i64 b2, .int .i64 c2, .int .i64 d2]) (off := 3) (v := .int .i64 d2) rfl
    have e0 : (Op.equalIn 9999 3 (.int .i64 a) (.int .i64 a2)).run Try.prog w = .ok (a == a2) w := eqI 9998 a a2 w
    have e1 : (Op.equalIn 9999 3 (.int .i64 b) (.int .i64 b2)).run Try.prog w = .ok (b == b2) w := eqI 9998 b b2 w
    have e2 : (Op.equalIn 9999 3 (.int .i64 c) (.int .i64 c2)).run Try.prog w = .ok (c == c2) w := eqI 9998 c c2 w
    have e3 : (Op.equalIn 9999 3 (.int .i64 d) (.int .i64 d2)).run Try.prog w = .ok (d == d2) w := eqI 9998 d d2 w
    simp only [List.range, List.range.loop, Op.eqItems, Sem.run_bind, Nat.zero_mul, Nat.one_mul, Nat.mul_one, p0, p1, p2, p3, q0, q1, q2, q3, Result.andThen_ok, e0, e1, e2, e3, Qn.mk.injEq]
    by_cases h0 : a = a2
    rotate_left
    · simp [h0]
    subst h0
    by_cases h1 : b = b2
    rotate_left
    · simp [h1, p1, q1, e1]
    subst h1
    by_cases h2 : c = c2
    rotate_left
    · simp [h2, p1, q1, e1, p2, q2, e2]
    subst h2
    by_cases h3 : d = d2
    · subst h3
      simp [p1, q1, e1, p2, q2, e2, p3, q3, e3]
    · simp [p1, q1, e1, p2, q2, e2, p3, q3, e3, h3]
  clear h
  simp only [go_sem]
  go_simp
theorem rev_get (P : List (Qn × Int)) (j : Nat) (h : j < P.length) : P.reverse[j]'(by simpa using h) = P[P.length - 1 - j]'(by omega) := List.getElem_reverse _
def LastPost (P : List (Qn × Int)) (q : Qn) (w : World) (e : Ending) (w' : World) : Prop :=
  e = .returned (.tuple #[.int .i64 ((lastP P q).getD 0), .bool (lastP P q).isSome]) ∧ Below w.heap.size w w'
set_option maxHeartbeats 1000000 in
set_option maxRecDepth 100000 in
theorem last_ (A : Option Addr) (ca : Nat) (P : List (Qn × Int)) (q : Qn) (w : World) (hL : P.length ≤ 1000) (hca : P.length ≤ ca) (hA : UG w A P) : Calls Try.prog 25 #[.slice A P.length ca, .agg q.cells.toArray] w (LastPost P q w) := by
  unfold LastPost
  have HA := Lib.hid hA
  have HAt := Lib.hid (fun i h1 h2 h3 => look_at P.reverse q i h1 h2 h3)
  have HNo := Lib.hid (fun h => look_none P.reverse q h)
  have HRv := Lib.hid (fun j h => rev_get P j h)
  have HLP : Hid (lastP P q = look P.reverse q) := Lib.hid rfl
  have HRl : Hid (P.reverse.length = P.length) := Lib.hid (by simp)
  clear hA
  obtain ⟨a, b, c, d⟩ := q
  show Calls Try.prog 25 #[.slice A P.length ca, .agg #[.int .i64 a, .int .i64 b, .int .i64 c, .int .i64 d]] w _
  have HB := Lib.hid ((Below.refl w.heap.size w).alloc (Nat.le_refl _) (.cells #[.int .i64 a, .int .i64 b, .int .i64 c, .int .i64 d] 52))
  have hq0 : ∀ o, (w.alloc (.cells #[.int .i64 a, .int .i64 b, .int .i64 c, .int .i64 d] 52)).cell? ⟨w.heap.size, o, none⟩ = (#[.int .i64 a, .int .i64 b, .int .i64 c, .int .i64 d] : Array Value)[o]? := fun o => Lib.cell_of_heap (heap_alloc_new w _) o
  have hsz : w.heap.size < (w.alloc (.cells #[.int .i64 a, .int .i64 b, .int .i64 c, .int .i64 d] 52)).heap.size := by simp
  obtain ⟨n, hn⟩ : ∃ n, P.length = n := ⟨_, rfl⟩
  rw [hn] at hL hca ⊢
  have HNn := Lib.hid hn
  clear hn
  go_enter Try.func25, Try.ntmps25
  go_wp2_with fail
  generalize w.alloc (.cells #[.int .i64 a, .int .i64 b, .int .i64 c, .int .i64 d] 52) = w1 at *
  obtain ⟨bq, hbq⟩ : ∃ bq, w.heap.size = bq := ⟨_, rfl⟩
  have HQ := Lib.hid (show ∀ y, Below w1.heap.size w1 y → ∀ o, y.cell? ⟨bq, o, none⟩ = (#[.int .i64 a, .int .i64 b, .int .i64 c, .int .i64 d] : Array Value)[o]? from fun y hy o => by rw [← hbq]; exact (hy.cell (p := ⟨w.heap.size, o, none⟩) hsz).trans (hq0 o))
  have HU := Lib.hid (show ∀ y, Below w1.heap.size w1 y → UG y A P from fun y hy => HA.out.below (HB.out.trans (hy.mono HB.out.size)))
  have hbq1 : bq < w1.heap.size := by rw [← hbq]; exact hsz
  simp only [hbq] at ⊢
  clear hq0 HA hsz hbq
  go_loopw [10] (fun i wr => ∃ j : Nat, j ≤ n ∧ i = .int .i64 j ∧ Hid (∀ t, (ht : t < j) → (h : t < P.reverse.length) → (P.reverse[t]).1 ≠ ⟨a, b, c, d⟩) ∧ Below w1.heap.size w1 wr) (fun i _ => n - (RowKit.intOf i).toNat)
  case atStart => exact ⟨0, by omega, rfl, Lib.hid (fun t ht => absurd ht (by omega)), Below.refl _ _⟩
  case round =>
    obtain ⟨j, hj, rfl, hno, hb⟩ := hrel
    by_cases hlt : j < n
    · have d1 : decide ((j : Int) < n) = true := by simp; omega
      have q0 : (0 : Int) ≤ j := by omega
      have q1 : (j : Int) < n := by omega
      obtain ⟨i, hi⟩ : ∃ i : Nat, n - 1 - j = i := ⟨_, rfl⟩
      have e1 : ((n : Int) - 1 - j) = (i : Int) := by omega
      have hin : i < n := by omega
      have hiP : i < P.length := by rw [HNn.out]; exact hin
      obtain ⟨g, rfl, hg, hcell⟩ := HU.out _ hb (by omega)
      obtain ⟨a0, a1, a2, a3, a4⟩ := hcell i hiP
      have hrev : P.reverse[j]'(by rw [HRl.out, HNn.out]; exact hlt) = P[i] := by
        rw [HRv.out j (by rw [HNn.out]; exact hlt)]
        congr 1
        rw [HNn.out]; exact hi
      have hqy := HQ.out _ hb
      have HB1 := Lib.hid hb
      obtain ⟨u, hu⟩ : ∃ u, P[i] = u := ⟨_, rfl⟩
      obtain ⟨⟨k1, k2, k3, k4⟩, v⟩ := u
      rw [hu] at a0 a1 a2 a3 a4 hrev
      simp only at a0 a1 a2 a3 a4
      have i0 : (0 : Int) ≤ i := by omega
      have i1 : (i : Int) < n := by omega
      have HREV := Lib.hid hrev
      have heq := fun w => eqK k1 k2 k3 k4 a b c d w
      have HI1 := Lib.hid (show j < P.reverse.length by rw [HRl.out, HNn.out]; exact hlt)
      clear hcell hb hrev hu hi
      have hbw := HB1.out.size
      have hbqr : bq < wr.heap.size := by omega
      by_cases hk : (⟨k1, k2, k3, k4⟩ : Qn) = ⟨a, b, c, d⟩
      · have HA1 := Lib.hid (HAt.out j HI1.out (by rw [HREV.out]; exact hk) (fun t ht => hno.out t ht (by have := HI1.out; omega)))
        have HA2 : Hid (lastP P ⟨a, b, c, d⟩ = some v) := Lib.hid (by rw [HLP.out, HA1.out, HREV.out])
        rw [decide_eq_true hk] at heq
        clear hk hno HA1
        have HFin := Lib.hid (show ∀ o, Below w.heap.size w (wr.alloc o) from fun o => HB.out.trans ((HB1.out.alloc hbw o).mono HB.out.size))
        go_wp2_with fail
        refine bodyPost_ret (v := .tuple #[.int .i64 v, .bool true]) (by simp [results, Try.results25, go_sem]) rfl ⟨?_, HFin.out _⟩
        rw [HA2.out]
        rfl
      · have hno2 : Hid (∀ t, (ht : t < j + 1) → (h : t < P.reverse.length) → (P.reverse[t]).1 ≠ ⟨a, b, c, d⟩) := Lib.hid (fun t ht h => by
          rcases Nat.lt_or_ge t j with h2 | h2
          · exact hno.out t h2 h
          · obtain rfl : t = j := by omega
            rw [HREV.out]
            exact hk)
        rw [decide_eq_false hk] at heq
        have HB2 := Lib.hid (show ∀ o, Below w1.heap.size w1 (wr.alloc o) from fun o => HB1.out.alloc hbw o)
        clear hk hno
        go_wp2_with fail
        go_roundw
        case rel => exact ⟨j + 1, by omega, by go_num, hno2, HB2.out _⟩
        case measure => simp [RowKit.intOf]; omega
    · have d1 : decide ((j : Int) < n) = false := by simp; omega
      have HA2 : Hid (lastP P ⟨a, b, c, d⟩ = none) := Lib.hid (by
        rw [HLP.out]
        exact HNo.out (fun t ht => hno.out t (by have := HRl.out; have := HNn.out; omega) ht))
      have HFin := Lib.hid (HB.out.trans (hb.mono HB.out.size))
      clear hno hb
      go_wp2_with fail
      refine bodyPost_ret (v := .tuple #[.int .i64 0, .bool false]) (by simp [results, Try.results25, go_sem]) rfl ⟨?_, ?_⟩
      · rw [HA2.out]; rfl
      · exact HFin.out
end Go.Proofs.Ytekgegpholcdcaa.CaH
