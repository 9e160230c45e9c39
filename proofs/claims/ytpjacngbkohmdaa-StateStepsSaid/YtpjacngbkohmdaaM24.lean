/- The document's Reaches, by contract; it answers what the program's does. -/
import Derived.Test.YtpjacngbkohmdaaM23
import Derived.Test.YtpjacngbkohmdaaM12
import Derived.ProofKit
import Derived.OpenShut
import Derived.ShutString
import Derived.ChangeOld
import Derived.Below
import Derived.Carry
import Derived.SliceStrings
import Derived.Test.YtpjacngbkohmdaaM01
import Derived.Deep.DeepHandedRow
import Derived.Test.YtpjacngbkohmdaaM03
import Derived.Test.YtpjacngbkohmdaaM02
namespace Go.Proofs.Ytpjacngbkohmdaa.StJ
set_option linter.unusedVariables false
set_option linter.unusedSimpArgs false
open Go.Shelf Go.RowKit Go.Sort Go.Lib Go.Proofs Go.Proofs.Ytpjacngbkohmdaa.Plain Go.Proofs.Ytpjacngbkohmdaa.SynP Go.Proofs.Ytpjacngbkohmdaa.Grown Go.Proofs.Ytpjacngbkohmdaa.SynC Go.Proofs.Ytpjacngbkohmdaa.SynD Go.Proofs.Ytpjacngbkohmdaa.SynD2 Go.Proofs.Ytpjacngbkohmdaa.SynD3 Go.Proofs.Ytpjacngbkohmdaa.QryP Go.Proofs.Ytpjacngbkohmdaa.PolA Go.Proofs.Ytpjacngbkohmdaa.PolE Go.Proofs.Ytpjacngbkohmdaa.StA Go.Proofs.Ytpjacngbkohmdaa.StB Go.Proofs.Ytpjacngbkohmdaa.StC Go.Proofs.Ytpjacngbkohmdaa.StD Go.Proofs.Ytpjacngbkohmdaa.StE Go.Proofs.Ytpjacngbkohmdaa.StF Go.Proofs.Ytpjacngbkohmdaa.StG Go.Proofs.Ytpjacngbkohmdaa.StH Go.Proofs.Ytpjacngbkohmdaa.StI
set_option linter.unusedVariables false
set_option linter.unusedSimpArgs false
def ok1 (S : List St) (G : List Rl) (s : St) : Bool := s.right && (decide (s ∈ S) || !decide (s.head ∈ G))
def ok2 (C : List St) (H : List Rl) (s : St) : Bool := !decide (s.head ∈ H) || decide (s ∈ C)
theorem reach_ref (p : Py) (C : List St) : reach p C = (C.all (ok1 p.stmts p.grow) && p.stmts.all (ok2 C p.shrink)) := by
  unfold reach
  congr 1
  · congr 1
    funext s
    unfold ok1 come
    cases s.right <;> simp
  · rw [Bool.eq_iff_iff, List.all_eq_true, List.all_eq_true]
    constructor
    · intro h s hs
      unfold ok2
      by_cases hc : s ∈ C
      · simp [hc]
      · have := h s (List.mem_filter.2 ⟨sort_mem.2 hs, by simp [hc]⟩)
        unfold go_ at this
        simp [this]
    · intro h s hs
      obtain ⟨h1, h2⟩ := List.mem_filter.1 hs
      have := h s (sort_mem.1 h1)
      unfold ok2 at this
      unfold go_
      simp at h2
      simpa [h2] using this
theorem all_false {α : Type} {T : List α} {q : α → Bool} {j : Nat} (h : j < T.length) (hq : q T[j] = false) : T.all q = false := by
  rw [Bool.eq_false_iff]
  intro ha
  rw [List.all_eq_true] at ha
  rw [ha _ (List.getElem_mem h)] at hq
  cases hq
theorem all_true {α : Type} {T : List α} {q : α → Bool} {j : Nat} (hj : T.length ≤ j) (h : ∀ k, k < j → ∀ hk : k < T.length, q T[k] = true) : T.all q = true := by
  rw [List.all_eq_true]
  intro x hx
  obtain ⟨k, hk, rfl⟩ := List.getElem_of_mem hx
  exact h k (by omega) hk
set_option maxHeartbeats 2000000 in
set_option maxRecDepth 100000 in
theorem refReaches (p : Py) (A1 A2 A3 A4 B : Option Addr) (c1 c2 c3 c4 cb : Nat) (C : List St) (w : World) (n1 : p.stmts.length ≤ 1000) (n2 : p.grow.length ≤ 1000) (n3 : p.shrink.length ≤ 1000) (n4 : C.length ≤ 1000) (h1 : SG w A1 p.stmts) (h2 : RG w A2 p.grow) (h3 : RG w A3 p.shrink) (hB : SG w B C) (f2 : ∀ s ∈ C, s.fit) :
    Calls Try.prog 23 #[p.val A1 A2 A3 A4 c1 c2 c3 c4, .slice B C.length cb] w fun e w' => e = .returned (.bool (reach p C)) ∧ Below w.heap.size w w' := by
  rw [reach_ref]
  obtain ⟨S, G, H, Q⟩ := p
  dsimp only at n1 n2 n3 h1 h2 h3 ⊢
  obtain ⟨ans, hans⟩ : ∃ ans, (C.all (ok1 S G) && S.all (ok2 C H)) = ans := ⟨_, rfl⟩
  rw [hans]
  have HN1 : Hid (∀ j, (h : j < C.length) → ok1 S G C[j] = false → ans = false) := Lib.hid (fun j h hq => by rw [← hans, all_false h hq]; rfl)
  have HN2 : Hid (∀ j, (h : j < S.length) → ok2 C H S[j] = false → ans = false) := Lib.hid (fun j h hq => by rw [← hans, all_false h hq, Bool.and_false])
  have HY : Hid ((∀ k, k < C.length → ∀ hk : k < C.length, ok1 S G C[k] = true) → (∀ k, k < S.length → ∀ hk : k < S.length, ok2 C H S[k] = true) → ans = true) := Lib.hid (fun a b => by rw [← hans, all_true (Nat.le_refl _) a, all_true (Nat.le_refl _) b]; rfl)
  obtain ⟨hbX, d0⟩ := StG.one w A1 A2 A3 A4 c1 c2 c3 c4 S G H Q
  have hX := heap_alloc_new w (.cells #[.slice A1 S.length c1, .slice A2 G.length c2, .slice A3 H.length c3, .slice A4 Q.length c4] 40)
  have HB0 := Lib.hid hbX
  have HX := Lib.hid hX
  have H1 := Lib.hid (fun w' (hb : Below w.heap.size w w') => h1.below hb)
  have H2 := Lib.hid (fun w' (hb : Below w.heap.size w w') => h2.below hb)
  have H3 := Lib.hid (fun w' (hb : Below w.heap.size w w') => h3.below hb)
  have H4 := Lib.hid (fun w' (hb : Below w.heap.size w w') => hB.below hb)
  have HF := Lib.hid f2
  clear hbX hX h1 h2 h3 hB f2 hans
  show Calls _ _ #[.agg #[.slice A1 S.length c1, .slice A2 G.length c2, .slice A3 H.length c3, .slice A4 Q.length c4], _] _ _
  go_enter Try.func23, Try.ntmps23
  go_upto_region 1 with fail
  obtain ⟨b0, hb0⟩ : ∃ b0, w.heap.size = b0 := ⟨_, rfl⟩
  rw [hb0] at HX d0
  simp only [hb0] at ⊢
  generalize w.alloc (.cells #[.slice A1 S.length c1, .slice A2 G.length c2, .slice A3 H.length c3, .slice A4 Q.length c4] 40) = w0 at *
  have HD := Lib.hid (fun w' (hb : Below w0.heap.size w0 w') (o : Nat) => Lib.cell_of_heap ((hb.block b0 (Array.getElem?_eq_some_iff.1 HX.out).1).trans HX.out) o)
  clear hb0 HX
  go_wp2_with fail
  clear d0
  go_loopw [11] (fun i wr => ∃ j : Nat, j ≤ C.length ∧ i = .int .i64 j ∧ Below w0.heap.size w0 wr ∧ Hid (∀ k, k < j → ∀ hk : k < C.length, ok1 S G C[k] = true)) (fun i _ => C.length - (intOf i).toNat)
  case atStart => exact ⟨0, by omega, rfl, Below.refl _ _, Lib.hid (fun k hk => by omega)⟩
  case round =>
    obtain ⟨j, hj, rfl, hb, hall⟩ := hrel
    by_cases hlt : j < C.length
    · have e1 : decide ((j : Int) < C.length) = true := by simp; omega
      obtain ⟨g, o, rfl, hg, hc⟩ := H4.out _ (nx HB0.out hb) (by omega)
      obtain ⟨a0, a1, a2, a3, a4, a5, a6, a7, a8⟩ := hc j hlt
      have p1 : (0 : Int) ≤ j := by omega
      have p2 : (j : Int) < C.length := by omega
      have HNo := Lib.hid (HN1.out j hlt)
      have HNx : Hid (ok1 S G C[j] = true → ∀ k, k < j + 1 → ∀ hk : k < C.length, ok1 S G C[k] = true) := Lib.hid (fun h k hk hk2 => by
        by_cases e : k = j
        · subst e; exact h
        · exact hall.out k (by omega) hk2)
      have hfx := HF.out C[j] (List.getElem_mem hlt)
      have HR := Lib.hid (fun w' => Syn9.rightRef C[j] w' hfx)
      have HH := Lib.hid (fun w' (h : SG w' A1 S) => hasG A1 c1 S C[j] w' n1 h)
      have HG := Lib.hid (fun w' (h : RG w' A2 G) => hasRefG A2 c2 G C[j].head w' n2 h)
      have HB := Lib.hid hb
      clear hc hb hg hall hfx
      unfold ok1 at HNo
      have HNx2 : Hid ((C[j].right && (decide (C[j] ∈ S) || !decide (C[j].head ∈ G))) = true → ∀ k, k < j + 1 → ∀ hk : k < C.length, ok1 S G C[k] = true) := HNx
      clear HNx
      generalize C[j] = x at *
      generalize x.right = r at *
      obtain ⟨k1, ⟨ho, hn⟩, wh, ⟨ao, an⟩, ⟨bo, bn⟩, v1⟩ := x
      unfold St.val at HH HR
      unfold Rl.val at HG
      dsimp only at HH HR HG HNo HNx2 a0 a1 a2 a3 a4 a5 a6 a7 a8
      generalize decide ((⟨k1, ⟨ho, hn⟩, wh, ⟨ao, an⟩, ⟨bo, bn⟩, v1⟩ : St) ∈ S) = d at *
      generalize decide ((⟨ho, hn⟩ : Rl) ∈ G) = m at *
      have hbX := below_alloc wr (.cells #[.int .i64 k1, .string ho, .string hn, .string wh, .string ao, .string an, .string bo, .string bn, .string v1] 26)
      have HX := Lib.hid (heap_alloc_new wr (.cells #[.int .i64 k1, .string ho, .string hn, .string wh, .string ao, .string an, .string bo, .string bn, .string v1] 26))
      have HBX := Lib.hid (nx HB.out hbX)
      have hz : (wr.alloc (.cells #[.int .i64 k1, .string ho, .string hn, .string wh, .string ao, .string an, .string bo, .string bn, .string v1] 26)).heap.size = wr.heap.size + 1 := by simp
      clear hbX
      go_upto_region 4 with fail
      obtain ⟨bx, hbx⟩ : ∃ bx, wr.heap.size = bx := ⟨_, rfl⟩
      rw [hbx] at HX hz
      simp only [hbx] at ⊢
      generalize wr.alloc (.cells #[.int .i64 k1, .string ho, .string hn, .string wh, .string ao, .string an, .string bo, .string bn, .string v1] 26) = w1 at *
      have HC := Lib.hid (fun w' (hb : Below w1.heap.size w1 w') (o : Nat) => Lib.cell_of_heap ((hb.block bx (by omega)).trans HX.out) o)
      have cx := HC.out w1 (Below.refl _ _)
      clear a0 a1 a2 a3 a4 a5 a6 a7 a8 hbx hz HX
      cases r with
      | false =>
        have hno := HNo.out (by simp)
        go_wp2_with fail
        refine (HR.out _).mono ?_
        rintro e w2 ⟨rfl, hg2⟩
        have HB2 := Lib.hid (nx HB0.out (nx HBX.out hg2.below))
        clear hg2 cx HR HH HG
        go_wp2_with fail
        go_ret
        exact ⟨ret_bool hno.symm, HB2.out⟩
      | true =>
        go_wp2_with fail
        refine (HR.out _).mono ?_
        rintro e w2 ⟨rfl, hg2⟩
        have HB2 := Lib.hid (nx HBX.out hg2.below)
        have cx2 := HC.out w2 hg2.below
        have d2 := HD.out w2 HB2.out
        have HH2 := Lib.hid (HH.out w2 (H1.out _ (nx HB0.out HB2.out)))
        have HC2 := Lib.hid (fun w' (hb : Below w2.heap.size w2 w') => HC.out w' (nx hg2.below hb))
        clear hg2 cx HR HH HC
        cases d with
        | true =>
          have hnx := HNx2.out (by simp)
          go_wp2_with fail
          refine HH2.out.mono ?_
          rintro e w3 ⟨rfl, hb3⟩
          have HB3 := Lib.hid (nx HB2.out hb3)
          clear hb3 cx2 d2 HH2 HG
          go_wp2_with fail
          go_roundw
          case rel => exact ⟨j + 1, by omega, by go_num, HB3.out, Lib.hid hnx⟩
          case measure => simp [intOf]; omega
        | false =>
          go_wp2_with fail
          refine HH2.out.mono ?_
          rintro e w3 ⟨rfl, hb3⟩
          have HB3 := Lib.hid (nx HB2.out hb3)
          have cx3 := HC2.out w3 hb3
          have d3 := HD.out w3 HB3.out
          have HG3 := Lib.hid (HG.out w3 (H2.out _ (nx HB0.out HB3.out)))
          clear hb3 cx2 d2 HH2 HG
          cases m with
          | true =>
            have hno := HNo.out (by simp)
            go_wp2_with fail
            refine HG3.out.mono ?_
            rintro e w4 ⟨rfl, hb4⟩
            have HB4 := Lib.hid (nx HB0.out (nx HB3.out hb4))
            clear hb4 cx3 d3 HG3
            go_wp2_with fail
            go_ret
            exact ⟨ret_bool hno.symm, HB4.out⟩
          | false =>
            have hnx := HNx2.out (by simp)
            go_wp2_with fail
            refine HG3.out.mono ?_
            rintro e w4 ⟨rfl, hb4⟩
            have HB4 := Lib.hid (nx HB3.out hb4)
            clear hb4 cx3 d3 HG3
            go_wp2_with fail
            go_roundw
            case rel => exact ⟨j + 1, by omega, by go_num, HB4.out, Lib.hid hnx⟩
            case measure => simp [intOf]; omega
    · have e1 : decide ((j : Int) < C.length) = false := by simp; omega
      have HY2 : Hid ((∀ k, k < S.length → ∀ hk : k < S.length, ok2 C H S[k] = true) → ans = true) := Lib.hid (HY.out (fun k hk hk2 => hall.out k (by omega) hk2))
      have HBj := Lib.hid hb
      have d1 := HD.out _ hb
      clear hall hb HY HN1 H2
      go_wp2_with fail
      clear d1
      go_loopw [34] (fun i wr => ∃ j : Nat, j ≤ S.length ∧ i = .int .i64 j ∧ Below w0.heap.size w0 wr ∧ Hid (∀ k, k < j → ∀ hk : k < S.length, ok2 C H S[k] = true)) (fun i _ => S.length - (intOf i).toNat)
      case atStart => exact ⟨0, by omega, rfl, HBj.out, Lib.hid (fun k hk => by omega)⟩
      case round =>
        obtain ⟨j2, hj2, rfl, hb, hall⟩ := hrel
        by_cases hlt2 : j2 < S.length
        · have e2 : decide ((j2 : Int) < S.length) = true := by simp; omega
          obtain ⟨g, o, rfl, hg, hc⟩ := H1.out _ (nx HB0.out hb) (by omega)
          obtain ⟨a0, a1, a2, a3, a4, a5, a6, a7, a8⟩ := hc j2 hlt2
          have p1 : (0 : Int) ≤ j2 := by omega
          have p2 : (j2 : Int) < S.length := by omega
          have HNo := Lib.hid (HN2.out j2 hlt2)
          have HNx : Hid (ok2 C H S[j2] = true → ∀ k, k < j2 + 1 → ∀ hk : k < S.length, ok2 C H S[k] = true) := Lib.hid (fun h k hk hk2 => by
            by_cases e : k = j2
            · subst e; exact h
            · exact hall.out k (by omega) hk2)
          have HG := Lib.hid (fun w' (h : RG w' A3 H) => hasRefG A3 c3 H S[j2].head w' n3 h)
          have HH := Lib.hid (fun w' (h : SG w' B C) => hasG B cb C S[j2] w' n4 h)
          have HB := Lib.hid hb
          clear hc hb hg hall
          unfold ok2 at HNo
          have HNx2 : Hid ((!decide (S[j2].head ∈ H) || decide (S[j2] ∈ C)) = true → ∀ k, k < j2 + 1 → ∀ hk : k < S.length, ok2 C H S[k] = true) := HNx
          clear HNx
          generalize S[j2] = x at *
          obtain ⟨k1, ⟨ho, hn⟩, wh, ⟨ao, an⟩, ⟨bo, bn⟩, v1⟩ := x
          unfold St.val at HH
          unfold Rl.val at HG
          dsimp only at HH HG HNo HNx2 a0 a1 a2 a3 a4 a5 a6 a7 a8
          generalize decide ((⟨k1, ⟨ho, hn⟩, wh, ⟨ao, an⟩, ⟨bo, bn⟩, v1⟩ : St) ∈ C) = d at *
          generalize decide ((⟨ho, hn⟩ : Rl) ∈ H) = m at *
          have hbX := below_alloc wr (.cells #[.int .i64 k1, .string ho, .string hn, .string wh, .string ao, .string an, .string bo, .string bn, .string v1] 26)
          have HX := Lib.hid (heap_alloc_new wr (.cells #[.int .i64 k1, .string ho, .string hn, .string wh, .string ao, .string an, .string bo, .string bn, .string v1] 26))
          have HBX := Lib.hid (nx HB.out hbX)
          have hz : (wr.alloc (.cells #[.int .i64 k1, .string ho, .string hn, .string wh, .string ao, .string an, .string bo, .string bn, .string v1] 26)).heap.size = wr.heap.size + 1 := by simp
          clear hbX
          go_upto_region 12 with fail
          obtain ⟨bx, hbx⟩ : ∃ bx, wr.heap.size = bx := ⟨_, rfl⟩
          rw [hbx] at HX hz
          simp only [hbx] at ⊢
          generalize wr.alloc (.cells #[.int .i64 k1, .string ho, .string hn, .string wh, .string ao, .string an, .string bo, .string bn, .string v1] 26) = w1 at *
          have HC := Lib.hid (fun w' (hb : Below w1.heap.size w1 w') (o : Nat) => Lib.cell_of_heap ((hb.block bx (by omega)).trans HX.out) o)
          have cx := HC.out w1 (Below.refl _ _)
          have dx := HD.out w1 HBX.out
          have HG2 := Lib.hid (HG.out w1 (H3.out _ (nx HB0.out HBX.out)))
          clear a0 a1 a2 a3 a4 a5 a6 a7 a8 hbx hz HX HG
          cases m with
          | false =>
            have hnx := HNx2.out (by simp)
            go_wp2_with fail
            refine HG2.out.mono ?_
            rintro e w2 ⟨rfl, hb2⟩
            have HB2 := Lib.hid (nx HBX.out hb2)
            clear hb2 cx dx HG2 HH
            go_wp2_with fail
            go_roundw
            case rel => exact ⟨j2 + 1, by omega, by go_num, HB2.out, Lib.hid hnx⟩
            case measure => simp [intOf]; omega
          | true =>
            go_wp2_with fail
            refine HG2.out.mono ?_
            rintro e w2 ⟨rfl, hb2⟩
            have HB2 := Lib.hid (nx HBX.out hb2)
            have cx2 := HC.out w2 hb2
            have HH2 := Lib.hid (HH.out w2 (H4.out _ (nx HB0.out HB2.out)))
            clear hb2 cx dx HG2 HH
            cases d with
            | true =>
              have hnx := HNx2.out (by simp)
              go_wp2_with fail
              refine HH2.out.mono ?_
              rintro e w3 ⟨rfl, hb3⟩
              have HB3 := Lib.hid (nx HB2.out hb3)
              clear hb3 cx2 HH2
              go_wp2_with fail
              go_roundw
              case rel => exact ⟨j2 + 1, by omega, by go_num, HB3.out, Lib.hid hnx⟩
              case measure => simp [intOf]; omega
            | false =>
              have hno := HNo.out (by simp)
              go_wp2_with fail
              refine HH2.out.mono ?_
              rintro e w3 ⟨rfl, hb3⟩
              have HB3 := Lib.hid (nx HB0.out (nx HB2.out hb3))
              clear hb3 cx2 HH2
              go_wp2_with fail
              go_ret
              exact ⟨ret_bool hno.symm, HB3.out⟩
        · have e2 : decide ((j2 : Int) < S.length) = false := by simp; omega
          have hy := HY2.out (fun k hk hk2 => hall.out k (by omega) hk2)
          have HB := Lib.hid (nx HB0.out hb)
          clear hall hb
          go_wp2_with fail
          go_ret
          exact ⟨ret_bool hy.symm, HB.out⟩
end Go.Proofs.Ytpjacngbkohmdaa.StJ
/- The document's example of layer 10, by contract. -/
namespace Go.Proofs.Ytpjacngbkohmdaa.StK
set_option linter.unusedVariables false
set_option linter.unusedSimpArgs false
open Go.Shelf Go.RowKit Go.Sort Go.Lib Go.Proofs Go.Proofs.Ytpjacngbkohmdaa.Plain Go.Proofs.Ytpjacngbkohmdaa.SynP Go.Proofs.Ytpjacngbkohmdaa.Grown Go.Proofs.Ytpjacngbkohmdaa.SynC Go.Proofs.Ytpjacngbkohmdaa.SynD Go.Proofs.Ytpjacngbkohmdaa.SynD2 Go.Proofs.Ytpjacngbkohmdaa.SynD3 Go.Proofs.Ytpjacngbkohmdaa.QryP Go.Proofs.Ytpjacngbkohmdaa.PolA Go.Proofs.Ytpjacngbkohmdaa.PolE Go.Proofs.Ytpjacngbkohmdaa.StA Go.Proofs.Ytpjacngbkohmdaa.StB Go.Proofs.Ytpjacngbkohmdaa.StC Go.Proofs.Ytpjacngbkohmdaa.StD Go.Proofs.Ytpjacngbkohmdaa.StE Go.Proofs.Ytpjacngbkohmdaa.StF Go.Proofs.Ytpjacngbkohmdaa.StG Go.Proofs.Ytpjacngbkohmdaa.StH Go.Proofs.Ytpjacngbkohmdaa.StI Go.Proofs.Ytpjacngbkohmdaa.StJ
set_option linter.unusedVariables false
set_option linter.unusedSimpArgs false
def oneS : St := ⟨1, ⟨⟨#[65]⟩, ⟨#[114]⟩⟩, ⟨#[66]⟩, ⟨⟨#[]⟩, ⟨#[]⟩⟩, ⟨⟨#[]⟩, ⟨#[]⟩⟩, ⟨#[]⟩⟩
theorem one_right : oneS.right = true := by decide +kernel
theorem one_fit : oneS.fit := ⟨⟨by decide, by decide⟩, by decide, ⟨by decide, by decide⟩, ⟨by decide, by decide⟩, by decide⟩
theorem one_sort : sortL cmpS [] [oneS] = [oneS] := by simp [sortL, insL]
set_option maxRecDepth 100000 in
theorem oneC (w : World) : Calls Try.prog 31 #[] w fun e w' => e = .returned (.agg #[.int .i64 1, .string ⟨#[65]⟩, .string ⟨#[114]⟩, .string ⟨#[66]⟩, .string ⟨#[]⟩, .string ⟨#[]⟩, .string ⟨#[]⟩, .string ⟨#[]⟩, .string ⟨#[]⟩]) ∧ Below w.heap.size w w' := by
  go_enter Try.func31, Try.ntmps31
  go_wp2_with fail
  exact bodyPost_ret (v := .agg #[.int .i64 1, .string ⟨#[65]⟩, .string ⟨#[114]⟩, .string ⟨#[66]⟩, .string ⟨#[]⟩, .string ⟨#[]⟩, .string ⟨#[]⟩, .string ⟨#[]⟩, .string ⟨#[]⟩]) (results_cell_row (cs := #[.int .i64 1, .string ⟨#[65]⟩, .string ⟨#[114]⟩, .string ⟨#[66]⟩, .string ⟨#[]⟩, .string ⟨#[]⟩, .string ⟨#[]⟩, .string ⟨#[]⟩, .string ⟨#[]⟩]) (fn := Try.f31) rfl _ _ w.heap.size 26 (0, 0) _ rfl (heap_alloc_new w _) Try.underlying26 rfl SynD8.infoSz) rfl ⟨rfl, below_alloc _ _⟩
def p1 : Py := ⟨[], [⟨⟨#[65]⟩, ⟨#[114]⟩⟩], [⟨⟨#[65]⟩, ⟨#[114]⟩⟩], []⟩
def p0 : Py := ⟨[], [], [], []⟩
theorem c_p1 : come p1 oneS = false := by decide +kernel
theorem c_p0 : come p0 oneS = true := by decide +kernel
theorem g_p1 : go_ p1 oneS = false := by decide +kernel
theorem rg_one {w : World} {g : Nat} (h : w.heap[g]? = some (.cells #[.string ⟨#[65]⟩, .string ⟨#[114]⟩] 24 (0, 0))) : RG w (some ⟨g, 0, none⟩) [⟨⟨#[65]⟩, ⟨#[114]⟩⟩] := fun _ => by
  refine ⟨g, 0, rfl, (Array.getElem?_eq_some_iff.1 h).1, fun j hj => ?_⟩
  have : j = 0 := by simp at hj; omega
  subst this
  exact ⟨Lib.cell_of_heap h 0, Lib.cell_of_heap h 1⟩
theorem fld (w : World) : (Instr.field 26 (.agg #[.int .i64 1, .string ⟨#[65]⟩, .string ⟨#[114]⟩, .string ⟨#[66]⟩, .string ⟨#[]⟩, .string ⟨#[]⟩, .string ⟨#[]⟩, .string ⟨#[]⟩, .string ⟨#[]⟩]) 1).run Try.prog w = .ok (.agg #[.string ⟨#[65]⟩, .string ⟨#[114]⟩]) w := by
  unfold Instr.field
  simp [Try.underlying26, asAgg, go_sem]
theorem rg_nil (w : World) : RG w none [] := fun h => by simp at h
theorem sg_one {w : World} {g : Nat} (h : w.heap[g]? = some (.cells #[.int .i64 1, .string ⟨#[65]⟩, .string ⟨#[114]⟩, .string ⟨#[66]⟩, .string ⟨#[]⟩, .string ⟨#[]⟩, .string ⟨#[]⟩, .string ⟨#[]⟩, .string ⟨#[]⟩] 26 (0, 0))) : SG w (some ⟨g, 0, none⟩) [oneS] := fun _ => by
  refine ⟨g, 0, rfl, (Array.getElem?_eq_some_iff.1 h).1, fun j hj => ?_⟩
  have : j = 0 := by simp at hj; omega
  subst this
  exact ⟨Lib.cell_of_heap h 0, Lib.cell_of_heap h 1, Lib.cell_of_heap h 2, Lib.cell_of_heap h 3, Lib.cell_of_heap h 4, Lib.cell_of_heap h 5, Lib.cell_of_heap h 6, Lib.cell_of_heap h 7, Lib.cell_of_heap h 8⟩
set_option maxHeartbeats 2000000 in
set_option maxRecDepth 100000 in
theorem lives (w : World) : Calls Try.prog 9 #[] w fun e w' => e = .returned (.bool true) ∧ Below w.heap.size w w' := by
  have HOne := Lib.hid oneC
  have hfd := fld
  have HIs : Hid (∀ x : World, Calls Try.prog 13 #[.slice (some ⟨x.heap.size, 0, none⟩) 1 1] (x.alloc (.cells #[.int .i64 1, .string ⟨#[65]⟩, .string ⟨#[114]⟩, .string ⟨#[66]⟩, .string ⟨#[]⟩, .string ⟨#[]⟩, .string ⟨#[]⟩, .string ⟨#[]⟩, .string ⟨#[]⟩] 26)) fun e w' => e = .returned (.bool true) ∧ Below (x.alloc (.cells #[.int .i64 1, .string ⟨#[65]⟩, .string ⟨#[114]⟩, .string ⟨#[66]⟩, .string ⟨#[]⟩, .string ⟨#[]⟩, .string ⟨#[]⟩, .string ⟨#[]⟩, .string ⟨#[]⟩] 26)).heap.size (x.alloc (.cells #[.int .i64 1, .string ⟨#[65]⟩, .string ⟨#[114]⟩, .string ⟨#[66]⟩, .string ⟨#[]⟩, .string ⟨#[]⟩, .string ⟨#[]⟩, .string ⟨#[]⟩, .string ⟨#[]⟩] 26)) w') := Lib.hid (fun x => by
    have h := is_ (some ⟨x.heap.size, 0, none⟩) 1 [oneS] (x.alloc (.cells #[.int .i64 1, .string ⟨#[65]⟩, .string ⟨#[114]⟩, .string ⟨#[66]⟩, .string ⟨#[]⟩, .string ⟨#[]⟩, .string ⟨#[]⟩, .string ⟨#[]⟩, .string ⟨#[]⟩] 26)) (by simp) (sg_one (heap_alloc_new x _)) (fun s hs => by rw [List.mem_singleton] at hs; rw [hs]; exact one_fit)
    have e : ([oneS].all St.right && decide ([oneS] = sortL cmpS [] [oneS])) = true := by rw [one_sort]; simp [one_right]
    rw [e] at h
    exact h)
  go_enter Try.func9, Try.ntmps9
  go_wp2_with fail
  refine (HOne.out _).mono ?_
  rintro e w1 ⟨rfl, hb1⟩
  have HB1 := Lib.hid hb1
  have hbA := below_alloc w1 (.cells #[.string ⟨#[65]⟩, .string ⟨#[114]⟩] 24)
  have hA := heap_alloc_new w1 (.cells #[.string ⟨#[65]⟩, .string ⟨#[114]⟩] 24)
  have HBA := Lib.hid (nx hb1 hbA)
  have HRA := Lib.hid (rg_one hA)
  clear hb1 hbA hA
  go_wp2_with fail
  obtain ⟨g1, hg1⟩ : ∃ g1, w1.heap.size = g1 := ⟨_, rfl⟩
  rw [hg1] at HRA
  simp only [hg1] at ⊢
  generalize w1.alloc (.cells #[.string ⟨#[65]⟩, .string ⟨#[114]⟩] 24) = wA at *
  refine (HOne.out _).mono ?_
  rintro e w2 ⟨rfl, hb2⟩
  have hbB := below_alloc w2 (.cells #[.string ⟨#[65]⟩, .string ⟨#[114]⟩] 24)
  have hB := heap_alloc_new w2 (.cells #[.string ⟨#[65]⟩, .string ⟨#[114]⟩] 24)
  have hbC := below_alloc (w2.alloc (.cells #[.string ⟨#[65]⟩, .string ⟨#[114]⟩] 24)) (.cells #[.slice none 0 0, .slice (some ⟨g1, 0, none⟩) 1 1, .slice (some ⟨w2.heap.size, 0, none⟩) 1 1, .slice none 0 0] 40)
  have hC := heap_alloc_new (w2.alloc (.cells #[.string ⟨#[65]⟩, .string ⟨#[114]⟩] 24)) (.cells #[.slice none 0 0, .slice (some ⟨g1, 0, none⟩) 1 1, .slice (some ⟨w2.heap.size, 0, none⟩) 1 1, .slice none 0 0] 40)
  have hz : (w2.alloc (.cells #[.string ⟨#[65]⟩, .string ⟨#[114]⟩] 24)).heap.size = w2.heap.size + 1 := by simp
  rw [hz] at hC
  have HBW := Lib.hid (nx HBA.out (nx hb2 (nx hbB hbC)))
  have HR1 := Lib.hid (HRA.out.below (nx hb2 (nx hbB hbC)))
  have HR2 := Lib.hid ((rg_one hB).below hbC)
  have HCW := Lib.hid hC
  clear hb2 hbB hB hbC hC hz HRA hg1 HB1 HBA
  go_upto_region 2 with fail
  obtain ⟨g2, hg2⟩ : ∃ g2, w2.heap.size = g2 := ⟨_, rfl⟩
  rw [hg2] at HR2 HCW
  simp only [hg2] at HCW ⊢
  obtain ⟨bp, hbp⟩ : ∃ bp, g2 + 1 = bp := ⟨_, rfl⟩
  rw [hbp] at HCW
  simp only [hbp] at ⊢
  have hh : ∀ W, W = (w2.alloc (.cells #[.string ⟨#[65]⟩, .string ⟨#[114]⟩] 24)).alloc (.cells #[.slice none 0 0, .slice (some ⟨g1, 0, none⟩) 1 1, .slice (some ⟨g2, 0, none⟩) 1 1, .slice none 0 0] 40) → True := fun _ _ => trivial
  clear hh
  simp only [hg2] at HBW HR1
  generalize (w2.alloc (.cells #[.string ⟨#[65]⟩, .string ⟨#[114]⟩] 24)).alloc (.cells #[.slice none 0 0, .slice (some ⟨g1, 0, none⟩) 1 1, .slice (some ⟨g2, 0, none⟩) 1 1, .slice none 0 0] 40) = W at *
  have HC1 : Hid (∀ w', Below W.heap.size W w' → Calls Try.prog 26 #[.agg #[.slice none 0 0, .slice (some ⟨g1, 0, none⟩) 1 1, .slice (some ⟨g2, 0, none⟩) 1 1, .slice none 0 0], .agg #[.int .i64 1, .string ⟨#[65]⟩, .string ⟨#[114]⟩, .string ⟨#[66]⟩, .string ⟨#[]⟩, .string ⟨#[]⟩, .string ⟨#[]⟩, .string ⟨#[]⟩, .string ⟨#[]⟩]] w' fun e wx => e = .returned (.bool false) ∧ Below w'.heap.size w' wx) := Lib.hid (fun w' hb => by
    have h := mayCome p1 none (some ⟨g1, 0, none⟩) (some ⟨g2, 0, none⟩) none 0 1 1 0 oneS w' (by decide) (HR1.out.below hb) one_fit
    rw [c_p1] at h
    exact h)
  have HG1 : Hid (∀ w', Below W.heap.size W w' → Calls Try.prog 28 #[.agg #[.slice none 0 0, .slice (some ⟨g1, 0, none⟩) 1 1, .slice (some ⟨g2, 0, none⟩) 1 1, .slice none 0 0], .agg #[.int .i64 1, .string ⟨#[65]⟩, .string ⟨#[114]⟩, .string ⟨#[66]⟩, .string ⟨#[]⟩, .string ⟨#[]⟩, .string ⟨#[]⟩, .string ⟨#[]⟩, .string ⟨#[]⟩]] w' fun e wx => e = .returned (.bool false) ∧ Below w'.heap.size w' wx) := Lib.hid (fun w' hb => by
    have h := mayGo p1 none (some ⟨g1, 0, none⟩) (some ⟨g2, 0, none⟩) none 0 1 1 0 oneS w' (by decide) (HR2.out.below hb)
    rw [g_p1] at h
    exact h)
  have HC0 : Hid (∀ w', Calls Try.prog 26 #[.agg #[.slice none 0 0, .slice none 0 0, .slice none 0 0, .slice none 0 0], .agg #[.int .i64 1, .string ⟨#[65]⟩, .string ⟨#[114]⟩, .string ⟨#[66]⟩, .string ⟨#[]⟩, .string ⟨#[]⟩, .string ⟨#[]⟩, .string ⟨#[]⟩, .string ⟨#[]⟩]] w' fun e wx => e = .returned (.bool true) ∧ Below w'.heap.size w' wx) := Lib.hid (fun w' => by
    have h := mayCome p0 none none none none 0 0 0 0 oneS w' (by decide) (rg_nil w') one_fit
    rw [c_p0] at h
    exact h)
  have HK : Hid (∀ w', Below W.heap.size W w' → Below W.heap.size W w' ∧ ∀ o, w'.cell? ⟨bp, o, none⟩ = (#[.slice none 0 0, .slice (some ⟨g1, 0, none⟩) 1 1, .slice (some ⟨g2, 0, none⟩) 1 1, .slice none 0 0] : Array Value)[o]?) := Lib.hid (fun w' hb => ⟨hb, fun o => Lib.cell_of_heap ((hb.block bp (Array.getElem?_eq_some_iff.1 HCW.out).1).trans HCW.out) o⟩)
  have HS := Lib.hid (HK.out _ ((Below.refl W.heap.size W).drew))
  clear HR1 HR2 HCW hg2 hbp
  go_region_held3 (fun w' => Below W.heap.size W w' ∧ ∀ o, w'.cell? ⟨bp, o, none⟩ = (#[.slice none 0 0, .slice (some ⟨g1, 0, none⟩) 1 1, .slice (some ⟨g2, 0, none⟩) 1 1, .slice none 0 0] : Array Value)[o]?)
    (first | with_reducible assumption | exact HS.out | exact HK.out _ (nx (by apply And.left; with_reducible assumption) (by with_reducible assumption)) | exact HK.out _ (nx (by apply And.left; with_reducible assumption) (below_alloc _ _)))
    (first | ((with_reducible refine (HOne.out _).mono ?_); rintro e w3 ⟨rfl, hb3⟩)
           | ((with_reducible refine (HC1.out _ (by apply And.left; with_reducible assumption)).mono ?_); rintro e w3 ⟨rfl, hb3⟩)
           | ((with_reducible refine (HG1.out _ (by apply And.left; with_reducible assumption)).mono ?_); rintro e w3 ⟨rfl, hb3⟩)
           | ((with_reducible refine (HC0.out _).mono ?_); rintro e w3 ⟨rfl, hb3⟩)
           | ((with_reducible refine (HIs.out _).mono ?_); rintro e w3 ⟨rfl, hb3⟩))
  all_goals rename_i hHeld
  all_goals (have HF := Lib.hid (nx HBW.out hHeld.1); clear hHeld; go_wp2_with fail; go_ret; exact ⟨rfl, HF.out⟩)
end Go.Proofs.Ytpjacngbkohmdaa.StK
/- What an argument that is a query reads as. -/
namespace Go.Proofs.Ytpjacngbkohmdaa.QryF
set_option linter.unusedVariables false
set_option linter.unusedSimpArgs false
open Go.ChangeShapes Go.WideShapes Go.ChangeAt Go.RowKit
open Go.ChangeMaps (open_string shut_string)
open Go.Proofs.Ytpjacngbkohmdaa.Plain Go.Proofs.Ytpjacngbkohmdaa.SynP Go.Proofs.Ytpjacngbkohmdaa.TabP Go.Proofs.Ytpjacngbkohmdaa.Tab1 Go.Proofs.Ytpjacngbkohmdaa.QryP
set_option maxRecDepth 1000000
theorem cells3 : Try.prog.cellsOf 3 = 1 := by kernel_rfl
theorem cells9 : Try.prog.cellsOf 9 = 1 := by kernel_rfl
theorem cellsW : Try.prog.cellsOf 49 = 1 := by kernel_rfl
theorem cellsR : Try.prog.cellsOf 24 = 2 := by kernel_rfl
theorem cellsQ : Try.prog.cellsOf 61 = 6 := by kernel_rfl
section
variable {H : Type} {enc : TypeId × Value → H} {w : World} {fuel : Nat} {cs : List Value} {x : DataW H × List MemPlace}
theorem some_at {α : Type} {xs : List α} {n i : Nat} (h : xs.length = n) (hi : i < n) : ∃ y, xs[i]? = some y := ⟨xs[i]'(by omega), List.getElem?_eq_getElem _⟩
theorem role_cells (h : DataW.trod enc Try.prog w 0 (fun _ => true) true fuel 24 cs = some x) : ∃ r : Rl, cs = [.string r.owner, .string r.name] ∧ r.light := by
  obtain ⟨xs, n, _, _, hl, hxl, hf⟩ := DataW.trod_struct Try.underlying24 h
  rw [cellsR] at hl
  match cs, hl with
  | [c0, c1], _ =>
    have h0 : DataW.trod enc Try.prog w 0 (fun _ => true) true n 9 (([c0, c1].drop 0).take (Try.prog.cellsOf 9)) = xs[0]? := hf 0 _ rfl
    have h1 : DataW.trod enc Try.prog w 0 (fun _ => true) true n 9 (([c0, c1].drop 1).take (Try.prog.cellsOf 9)) = xs[1]? := hf 1 _ rfl
    obtain ⟨y0, e0⟩ := some_at (i := 0) hxl (by decide)
    obtain ⟨y1, e1⟩ := some_at (i := 1) hxl (by decide)
    rw [e0] at h0
    rw [e1] at h1
    rw [cells9] at h0 h1
    obtain ⟨s0, a0, _, b0⟩ := DataW.trod_string Try.underlying9 h0
    obtain ⟨s1, a1, _, b1⟩ := DataW.trod_string Try.underlying9 h1
    simp at a0 a1
    subst a0; subst a1
    exact ⟨⟨s0, s1⟩, rfl, b0, b1⟩
theorem row_cells (h : DataW.trod enc Try.prog w 0 (fun _ => true) true fuel 49 cs = some x) : ∃ (A : Option Addr) (c : Nat) (T : List Str), cs = [.slice A T.length c] ∧ T.length ≤ maxLen ∧ (∀ s ∈ T, s.length ≤ maxLen) ∧ SRow w A T := by
  rcases open_strings Try.underlying49 Try.underlying9 cells9 h with ⟨hcs, hx⟩ | ⟨a, nn, cap, ss, hcs, _, hl, hm, hz, hx, hcell, hws⟩
  · exact ⟨none, 0, [], hcs, by simp, by simp, fun h => by simp at h⟩
  · have hzl : ss.length = cap := by simpa using hz
    have hl2 : ((ss.take nn).map (·.data.toList)).length = nn := by simp; omega
    refine ⟨some a, cap, (ss.take nn).map (·.data.toList), by rw [hl2]; exact hcs, by rw [hl2]; omega, ?_, ?_⟩
    · intro s hs
      obtain ⟨x, hx, rfl⟩ := List.mem_map.1 hs
      exact hws x (List.mem_of_mem_take hx)
    · by_cases h0 : 0 < nn
      · have h1 := hcell 0 (by omega)
        obtain ⟨b, off, spot⟩ := a
        have hspot : spot = none := by simpa [Addr.add] using World.cell?_spot h1
        subst hspot
        have hadd : ∀ i, ((⟨b, off, none⟩ : Addr).add i) = ⟨b, off + i, none⟩ := fun i => by
          unfold Addr.add
          split
          · rename_i h; subst h; rfl
          · simp
        have hb : b < w.heap.size := World.block_lt_of_cell? _ _ h1
        refine fun hp => ⟨b, off, rfl, hb, fun j hj => ?_⟩
        rw [hl2] at hj
        have hc := hcell j (by omega)
        rw [hadd] at hc
        rw [hc]
        simp
        rw [List.getElem?_eq_getElem (by omega)]; rfl
      · intro hp
        rw [hl2] at hp
        omega
theorem query_cells (h : DataW.trod enc Try.prog w 0 (fun _ => true) true fuel 61 cs = some x) : ∃ (q : Qy) (A : Option Addr) (c : Nat), cs = [.int .i64 q.kind, .string q.a.owner, .string q.a.name, .string q.b.owner, .string q.b.name, .slice A q.who.length c] ∧ q.fit ∧ SRow w A q.who := by
  obtain ⟨xs, n, _, _, hl, hxl, hf⟩ := DataW.trod_struct Try.underlying61 h
  rw [cellsQ] at hl
  match cs, hl with
  | [c0, c1, c2, c3, c4, c5], _ =>
    have h0 : DataW.trod enc Try.prog w 0 (fun _ => true) true n 3 (([c0, c1, c2, c3, c4, c5].drop 0).take (Try.prog.cellsOf 3)) = xs[0]? := hf 0 _ rfl
    have h1 : DataW.trod enc Try.prog w 0 (fun _ => true) true n 24 (([c0, c1, c2, c3, c4, c5].drop 1).take (Try.prog.cellsOf 24)) = xs[1]? := hf 1 _ rfl
    have h2 : DataW.trod enc Try.prog w 0 (fun _ => true) true n 24 (([c0, c1, c2, c3, c4, c5].drop 3).take (Try.prog.cellsOf 24)) = xs[2]? := hf 2 _ rfl
    have h3 : DataW.trod enc Try.prog w 0 (fun _ => true) true n 49 (([c0, c1, c2, c3, c4, c5].drop 5).take (Try.prog.cellsOf 49)) = xs[3]? := hf 3 _ rfl
    obtain ⟨y0, e0⟩ := some_at (i := 0) hxl (by decide)
    obtain ⟨y1, e1⟩ := some_at (i := 1) hxl (by decide)
    obtain ⟨y2, e2⟩ := some_at (i := 2) hxl (by decide)
    obtain ⟨y3, e3⟩ := some_at (i := 3) hxl (by decide)
    rw [e0] at h0
    rw [e1] at h1
    rw [e2] at h2
    rw [e3] at h3
    rw [cells3] at h0
    rw [cellsR] at h1 h2
    rw [cellsW] at h3
    obtain ⟨k, a0, _, _⟩ := DataW.trod_int Try.underlying3 h0
    obtain ⟨r1, a1, b1⟩ := role_cells h1
    obtain ⟨r2, a2, b2⟩ := role_cells h2
    obtain ⟨A, c, T, a3, b3, b4, b5⟩ := row_cells h3
    simp at a0 a1 a2 a3
    obtain ⟨a11, a12⟩ := a1
    obtain ⟨a21, a22⟩ := a2
    subst a0 a11 a12 a21 a22 a3
    exact ⟨⟨k, r1, r2, T⟩, A, c, rfl, ⟨b1, b2, b3, b4⟩, b5⟩
theorem open_query {r : Reach} {b0 : Nat} {v : Value} {d : DataW H} {p : List MemPlace} (hv : Value.okWide Try.prog w r b0 61 v) (h : DataW.Trod enc Try.prog w 0 (fun _ => true) true 61 v d p) : ∃ (q : Qy) (A : Option Addr) (c : Nat), v = q.val A c ∧ q.fit ∧ SRow w A q.who := by
  obtain ⟨cs, rfl, hsz⟩ := okWide_struct Try.underlying61 hv
  obtain ⟨fuel, hf⟩ := h
  obtain ⟨q, A, c, hs, hfit, hr⟩ := query_cells hf
  refine ⟨q, A, c, ?_, hfit, hr⟩
  have : cs.toList = [.int .i64 q.kind, .string q.a.owner, .string q.a.name, .string q.b.owner, .string q.b.name, .slice A q.who.length c] := by simpa [Value.cells] using hs
  obtain ⟨l⟩ := cs
  simp at this
  subst this
  rfl
end
end Go.Proofs.Ytpjacngbkohmdaa.QryF
/- What arguments that are a statement, or a row of texts, read as. -/
namespace Go.Proofs.Ytpjacngbkohmdaa.TblO
set_option linter.unusedVariables false
set_option linter.unusedSimpArgs false
open Go.ChangeShapes Go.WideShapes Go.ChangeAt Go.RowKit
open Go.ChangeMaps (open_string shut_string)
open Go.Proofs.Ytpjacngbkohmdaa.Plain Go.Proofs.Ytpjacngbkohmdaa.SynP Go.Proofs.Ytpjacngbkohmdaa.TabP Go.Proofs.Ytpjacngbkohmdaa.Tab1
set_option maxRecDepth 1000000
theorem cells3 : Try.prog.cellsOf 3 = 1 := by kernel_rfl
theorem cells9 : Try.prog.cellsOf 9 = 1 := by kernel_rfl
theorem cellsR : Try.prog.cellsOf 24 = 2 := by kernel_rfl
theorem cellsS : Try.prog.cellsOf 26 = 9 := by kernel_rfl
section
variable {H : Type} {enc : TypeId × Value → H} {w : World} {base : Nat} {spare : Nat → Bool} {held : Bool} {fuel : Nat} {cs : List Value} {x : DataW H × List MemPlace}
theorem some_at {α : Type} {xs : List α} {n i : Nat} (h : xs.length = n) (hi : i < n) : ∃ y, xs[i]? = some y := ⟨xs[i]'(by omega), List.getElem?_eq_getElem _⟩
theorem role_cells (h : DataW.trod enc Try.prog w base spare held fuel 24 cs = some x) : ∃ r : Rl, cs = [.string r.owner, .string r.name] ∧ r.light := by
  obtain ⟨xs, n, _, _, hl, hxl, hf⟩ := DataW.trod_struct Try.underlying24 h
  rw [cellsR] at hl
  match cs, hl with
  | [c0, c1], _ =>
    have h0 : DataW.trod enc Try.prog w base spare held n 9 (([c0, c1].drop 0).take (Try.prog.cellsOf 9)) = xs[0]? := hf 0 _ rfl
    have h1 : DataW.trod enc Try.prog w base spare held n 9 (([c0, c1].drop 1).take (Try.prog.cellsOf 9)) = xs[1]? := hf 1 _ rfl
    obtain ⟨y0, e0⟩ := some_at (i := 0) hxl (by decide)
    obtain ⟨y1, e1⟩ := some_at (i := 1) hxl (by decide)
    rw [e0] at h0
    rw [e1] at h1
    rw [cells9] at h0 h1
    obtain ⟨s0, a0, _, b0⟩ := DataW.trod_string Try.underlying9 h0
    obtain ⟨s1, a1, _, b1⟩ := DataW.trod_string Try.underlying9 h1
    simp at a0 a1
    subst a0; subst a1
    exact ⟨⟨s0, s1⟩, rfl, b0, b1⟩
theorem stmt_cells (h : DataW.trod enc Try.prog w base spare held fuel 26 cs = some x) : ∃ s : St, cs = s.cells ∧ s.fit := by
  obtain ⟨xs, n, _, _, hl, hxl, hf⟩ := DataW.trod_struct Try.underlying26 h
  rw [cellsS] at hl
  match cs, hl with
  | [c0, c1, c2, c3, c4, c5, c6, c7, c8], _ =>
    have h0 : DataW.trod enc Try.prog w base spare held n 3 (([c0, c1, c2, c3, c4, c5, c6, c7, c8].drop 0).take (Try.prog.cellsOf 3)) = xs[0]? := hf 0 _ rfl
    have h1 : DataW.trod enc Try.prog w base spare held n 24 (([c0, c1, c2, c3, c4, c5, c6, c7, c8].drop 1).take (Try.prog.cellsOf 24)) = xs[1]? := hf 1 _ rfl
    have h2 : DataW.trod enc Try.prog w base spare held n 9 (([c0, c1, c2, c3, c4, c5, c6, c7, c8].drop 3).take (Try.prog.cellsOf 9)) = xs[2]? := hf 2 _ rfl
    have h3 : DataW.trod enc Try.prog w base spare held n 24 (([c0, c1, c2, c3, c4, c5, c6, c7, c8].drop 4).take (Try.prog.cellsOf 24)) = xs[3]? := hf 3 _ rfl
    have h4 : DataW.trod enc Try.prog w base spare held n 24 (([c0, c1, c2, c3, c4, c5, c6, c7, c8].drop 6).take (Try.prog.cellsOf 24)) = xs[4]? := hf 4 _ rfl
    have h5 : DataW.trod enc Try.prog w base spare held n 9 (([c0, c1, c2, c3, c4, c5, c6, c7, c8].drop 8).take (Try.prog.cellsOf 9)) = xs[5]? := hf 5 _ rfl
    obtain ⟨y0, e0⟩ := some_at (i := 0) hxl (by decide)
    obtain ⟨y1, e1⟩ := some_at (i := 1) hxl (by decide)
    obtain ⟨y2, e2⟩ := some_at (i := 2) hxl (by decide)
    obtain ⟨y3, e3⟩ := some_at (i := 3) hxl (by decide)
    obtain ⟨y4, e4⟩ := some_at (i := 4) hxl (by decide)
    obtain ⟨y5, e5⟩ := some_at (i := 5) hxl (by decide)
    rw [e0] at h0
    rw [e1] at h1
    rw [e2] at h2
    rw [e3] at h3
    rw [e4] at h4
    rw [e5] at h5
    rw [cells3] at h0
    rw [cellsR] at h1 h3 h4
    rw [cells9] at h2 h5
    obtain ⟨k, a0, _, _⟩ := DataW.trod_int Try.underlying3 h0
    obtain ⟨r1, a1, b1⟩ := role_cells h1
    obtain ⟨s2, a2, _, b2⟩ := DataW.trod_string Try.underlying9 h2
    obtain ⟨r3, a3, b3⟩ := role_cells h3
    obtain ⟨r4, a4, b4⟩ := role_cells h4
    obtain ⟨s5, a5, _, b5⟩ := DataW.trod_string Try.underlying9 h5
    simp at a0 a1 a2 a3 a4 a5
    obtain ⟨a11, a12⟩ := a1
    obtain ⟨a31, a32⟩ := a3
    obtain ⟨a41, a42⟩ := a4
    subst a0 a11 a12 a2 a31 a32 a41 a42 a5
    exact ⟨⟨k, r1, s2, r3, r4, s5⟩, rfl, b1, b2, b3, b4, b5⟩
theorem open_stmt {r : Reach} {b0 : Nat} {v : Value} {d : DataW H} {p : List MemPlace} (hv : Value.okWide Try.prog w r b0 26 v) (h : DataW.Trod enc Try.prog w base spare held 26 v d p) : ∃ s : St, v = s.val ∧ s.fit := by
  obtain ⟨cs, rfl, hsz⟩ := okWide_struct Try.underlying26 hv
  obtain ⟨fuel, hf⟩ := h
  obtain ⟨s, hs, hfit⟩ := stmt_cells hf
  refine ⟨s, ?_, hfit⟩
  have : cs.toList = s.cells := by simpa [Value.cells] using hs
  obtain ⟨l⟩ := cs
  simp at this
  subst this
  rfl
end
theorem row_of_strings {w : World} {b off n m : Nat} {ss : List ByteArray} (hn : n ≤ m) (hm : ss.length = m) (hb : 0 < n → b < w.heap.size) (hcell : ∀ i, i < ss.length → w.cell? ⟨b, off + i, none⟩ = some (.string (ss.getD i ByteArray.empty))) :
    SRow w (some ⟨b, off, none⟩) ((ss.take n).map (·.data.toList)) := fun hp => by
  have hl : ((ss.take n).map (·.data.toList)).length = n := by simp; omega
  refine ⟨b, off, rfl, hb (by omega), fun j hj => ?_⟩
  rw [hl] at hj
  rw [hcell j (by omega), List.getD_eq_getElem?_getD, List.getElem?_eq_getElem (by omega)]
  simp
end Go.Proofs.Ytpjacngbkohmdaa.TblO
/- What an argument that is a policy reads as. -/
namespace Go.Proofs.Ytpjacngbkohmdaa.PolOp
set_option linter.unusedVariables false
set_option linter.unusedSimpArgs false
open Go.ChangeShapes Go.WideShapes Go.ChangeAt Go.RowKit
open Go.Proofs.Ytpjacngbkohmdaa.Plain Go.Proofs.Ytpjacngbkohmdaa.SynP Go.Proofs.Ytpjacngbkohmdaa.Tab1 Go.Proofs.Ytpjacngbkohmdaa.QryP Go.Proofs.Ytpjacngbkohmdaa.QryF Go.Proofs.Ytpjacngbkohmdaa.PolA Go.Proofs.Ytpjacngbkohmdaa.PolE
set_option linter.unusedVariables false
set_option maxRecDepth 1000000
theorem off_add (b off j : Nat) : ((⟨b, off, none⟩ : Addr).add j) = ⟨b, off + j, none⟩ := by
  unfold Addr.add
  split
  · rename_i h; subst h; rfl
  · simp
theorem list_of {α : Type} {P : Nat → α → Prop} : ∀ n, (∀ i, i < n → ∃ x, P i x) → ∃ L : List α, L.length = n ∧ ∀ i, (h : i < L.length) → P i L[i]
  | 0, _ => ⟨[], rfl, fun i h => absurd h (Nat.not_lt_zero i)⟩
  | n + 1, H => by
    obtain ⟨L, hl, hp⟩ := list_of n fun i hi => H i (by omega)
    obtain ⟨x, hx⟩ := H n (by omega)
    refine ⟨L ++ [x], by simp [hl], fun i h => ?_⟩
    by_cases hi : i < L.length
    · rw [List.getElem_append_left hi]; exact hp i hi
    · have : i = n := by simp at h; omega
      subst this
      rw [List.getElem_append_right (by omega)]
      simpa [hl] using hx
section
variable {H : Type} {enc : TypeId × Value → H} {W : World} {fuel : Nat} {c0 : Value} {x : DataW H × List MemPlace}
/-- A slice of structs of m cells that came in: its elements, one by one. -/
theorem row_of {α : Type} {t e : TypeId} (m : Nat) (hm0 : 0 < m) (ht : Try.prog.underlying t = some (.slice e)) (hce : Try.prog.cellsOf e = m) (R : World → α → List Value → Prop)
    (hel : ∀ {n : Nat} {cs : List Value} {y : DataW H × List MemPlace}, DataW.trod enc Try.prog W 0 (fun _ => true) true n e cs = some y → ∃ s : α, R W s cs ∧ cs.length = m)
    (hf : DataW.trod enc Try.prog W 0 (fun _ => true) true fuel t [c0] = some x) :
    ∃ (A : Option Addr) (n c : Nat) (L : List α), c0 = .slice A n c ∧ L.length = n ∧ n ≤ maxLen ∧ (0 < n → ∃ g o, A = some ⟨g, o, none⟩ ∧ g < W.heap.size ∧ ∀ j, (h : j < L.length) → ∃ cs, R W L[j] cs ∧ cs.length = m ∧ ∀ k u, cs[k]? = some u → W.cell? ⟨g, o + j * m + k, none⟩ = some u) := by
  rcases DataW.trod_slice ht hf with ⟨hcs, hx⟩ | ⟨a, len', cap', elems, rest, n, _, hcs, hx, hb, hl, hm, hlen, hel2, _⟩
  · simp at hcs
    subst hcs
    exact ⟨none, 0, 0, [], rfl, rfl, by simp, fun h => by simp at h⟩
  · simp at hcs
    subst hcs
    have key : ∀ i, i < len' → ∃ s : α, ∃ cs, R W s cs ∧ cs.length = m ∧ ∀ k, k < m → W.cell? (a.add (i * m) |>.add k) = cs[k]? := fun i hi => by
      have q := hel2 i hi
      rw [hce] at q
      obtain ⟨y, hy⟩ : ∃ y, elems[i]? = some y := some_at hlen hi
      rw [hy, Option.bind_eq_some_iff] at q
      obtain ⟨cs, hc, ht2⟩ := q
      obtain ⟨s, hs, hln⟩ := hel ht2
      obtain ⟨_, _, hat⟩ := World.cells?_some hc
      exact ⟨s, cs, hs, hln, hat⟩
    obtain ⟨L, hL, hp⟩ := list_of (P := fun i (s : α) => ∃ cs, R W s cs ∧ cs.length = m ∧ ∀ k, k < m → W.cell? (a.add (i * m) |>.add k) = cs[k]?) len' key
    refine ⟨some a, len', cap', L, rfl, hL, by omega, fun hpos => ?_⟩
    obtain ⟨cs0, _, hc0, h0⟩ := hp 0 (by omega)
    have h1 := h0 0 hm0
    rw [List.getElem?_eq_getElem (by omega)] at h1
    obtain ⟨b, off, spot⟩ := a
    have hspot : spot = none := by simpa [Addr.add] using World.cell?_spot h1
    subst hspot
    have hlt := World.block_lt_of_cell? _ _ h1
    rw [off_add, off_add] at hlt
    refine ⟨b, off, rfl, hlt, fun j hj => ?_⟩
    obtain ⟨cs, hr, hcl, hat⟩ := hp j hj
    refine ⟨cs, hr, hcl, fun k u hu => ?_⟩
    have hk : k < m := by
      rcases Nat.lt_or_ge k cs.length with h | h
      · omega
      · rw [List.getElem?_eq_none h] at hu; cases hu
    have := hat k hk
    rw [off_add, off_add] at this
    rw [this, hu]
end
section
variable {H : Type} {enc : TypeId × Value → H} {W : World} {fuel : Nat} {c0 : Value} {x : DataW H × List MemPlace}
theorem stmts_cell (hf : DataW.trod enc Try.prog W 0 (fun _ => true) true fuel 22 [c0] = some x) : ∃ (A : Option Addr) (c : Nat) (L : List St), c0 = .slice A L.length c ∧ L.length ≤ maxLen ∧ (∀ s ∈ L, s.fit) ∧ SG W A L := by
  obtain ⟨A, n, c, L, rfl, hL, hm, h⟩ := row_of 9 (by omega) Try.underlying22 TblO.cellsS (fun _ (s : St) cs => cs = s.cells ∧ s.fit) (fun {n cs y} h => by
    obtain ⟨s, rfl, hf⟩ := TblO.stmt_cells h
    exact ⟨s, ⟨rfl, hf⟩, rfl⟩) hf
  subst hL
  refine ⟨A, c, L, rfl, hm, fun s hs => ?_, fun hp => ?_⟩
  · obtain ⟨j, hj, rfl⟩ := List.getElem_of_mem hs
    obtain ⟨g, o, _, _, hc⟩ := h (by omega)
    obtain ⟨cs, ⟨_, hf⟩, _⟩ := hc j hj
    exact hf
  · obtain ⟨g, o, rfl, hg, hc⟩ := h hp
    refine ⟨g, o, rfl, hg, fun j hj => ?_⟩
    obtain ⟨cs, ⟨rfl, _⟩, _, hk⟩ := hc j hj
    exact ⟨hk 0 _ rfl, hk 1 _ rfl, hk 2 _ rfl, hk 3 _ rfl, hk 4 _ rfl, hk 5 _ rfl, hk 6 _ rfl, hk 7 _ rfl, hk 8 _ rfl⟩
theorem roles_cell (hf : DataW.trod enc Try.prog W 0 (fun _ => true) true fuel 37 [c0] = some x) : ∃ (A : Option Addr) (c : Nat) (L : List Rl), c0 = .slice A L.length c ∧ L.length ≤ maxLen ∧ (∀ r ∈ L, r.light) ∧ RG W A L := by
  obtain ⟨A, n, c, L, rfl, hL, hm, h⟩ := row_of 2 (by omega) Try.underlying37 TblO.cellsR (fun _ (r : Rl) cs => cs = [.string r.owner, .string r.name] ∧ r.light) (fun {n cs y} h => by
    obtain ⟨s, rfl, hf⟩ := TblO.role_cells h
    exact ⟨s, ⟨rfl, hf⟩, rfl⟩) hf
  subst hL
  refine ⟨A, c, L, rfl, hm, fun s hs => ?_, fun hp => ?_⟩
  · obtain ⟨j, hj, rfl⟩ := List.getElem_of_mem hs
    obtain ⟨g, o, _, _, hc⟩ := h (by omega)
    obtain ⟨cs, ⟨_, hf⟩, _⟩ := hc j hj
    exact hf
  · obtain ⟨g, o, rfl, hg, hc⟩ := h hp
    refine ⟨g, o, rfl, hg, fun j hj => ?_⟩
    obtain ⟨cs, ⟨rfl, _⟩, _, hk⟩ := hc j hj
    exact ⟨hk 0 _ rfl, hk 1 _ rfl⟩
theorem asks_cell (hf : DataW.trod enc Try.prog W 0 (fun _ => true) true fuel 38 [c0] = some x) : ∃ (A : Option Addr) (c : Nat) (L : List Qy), c0 = .slice A L.length c ∧ L.length ≤ maxLen ∧ (∀ q ∈ L, q.fit) ∧ QG W A L := by
  obtain ⟨A, n, c, L, rfl, hL, hm, h⟩ := row_of 6 (by omega) Try.underlying38 QryF.cellsQ (fun w (q : Qy) cs => ∃ (B : Option Addr) (c : Nat), cs = [.int .i64 q.kind, .string q.a.owner, .string q.a.name, .string q.b.owner, .string q.b.name, .slice B q.who.length c] ∧ q.fit ∧ SRow w B q.who) (fun {n cs y} h => by
    obtain ⟨q, B, c, rfl, hf, hr⟩ := QryF.query_cells h
    exact ⟨q, ⟨B, c, rfl, hf, hr⟩, rfl⟩) hf
  subst hL
  refine ⟨A, c, L, rfl, hm, fun s hs => ?_, fun hp => ?_⟩
  · obtain ⟨j, hj, rfl⟩ := List.getElem_of_mem hs
    obtain ⟨g, o, _, _, hc⟩ := h (by omega)
    obtain ⟨cs, ⟨_, _, _, hf, _⟩, _⟩ := hc j hj
    exact hf
  · obtain ⟨g, o, rfl, hg, hc⟩ := h hp
    refine ⟨g, o, rfl, hg, fun j hj => ?_⟩
    obtain ⟨cs, ⟨B, c, rfl, _, hr⟩, _, hk⟩ := hc j hj
    exact ⟨B, c, hk 0 _ rfl, hk 1 _ rfl, hk 2 _ rfl, hk 3 _ rfl, hk 4 _ rfl, hk 5 _ rfl, hr⟩
theorem c1 : Try.prog.cellsOf 22 = 1 := by kernel_rfl
theorem c2 : Try.prog.cellsOf 37 = 1 := by kernel_rfl
theorem c3 : Try.prog.cellsOf 38 = 1 := by kernel_rfl
theorem cP : Try.prog.cellsOf 40 = 4 := by kernel_rfl
/-- Texts and rows that came in. -/
structure Came (p : Py) : Prop where
  n1 : p.stmts.length ≤ maxLen
  n2 : p.grow.length ≤ maxLen
  n3 : p.shrink.length ≤ maxLen
  n4 : p.asks.length ≤ maxLen
  f1 : ∀ s ∈ p.stmts, s.fit
  f2 : ∀ r ∈ p.grow, r.light
  f3 : ∀ r ∈ p.shrink, r.light
  f4 : ∀ q ∈ p.asks, q.fit
theorem open_policy {base : Nat} {v : Value} {d : DataW H} {p : List MemPlace}
    (hval : Value.okWide Try.prog W .any base 40 v) (h : DataW.Trod enc Try.prog W 0 (fun _ => true) true 40 v d p) :
    ∃ (y : Py) (A1 A2 A3 A4 : Option Addr) (c1 c2 c3 c4 : Nat), v = y.val A1 A2 A3 A4 c1 c2 c3 c4 ∧ Came y ∧ PG W A1 A2 A3 A4 y := by
  obtain ⟨cs, rfl, hsz⟩ := okWide_struct Try.underlying40 hval
  obtain ⟨fuel, hf⟩ := h
  obtain ⟨xs, n, _, _, hl, hxl, hfa⟩ := DataW.trod_struct Try.underlying40 hf
  rw [cP] at hl
  obtain ⟨l⟩ := cs
  simp only [Value.cells, List.toList_toArray] at hl hfa
  match l, hl with
  | [e0, e1, e2, e3], _ =>
    have h0 : DataW.trod enc Try.prog W 0 (fun _ => true) true n 22 (([e0, e1, e2, e3].drop 0).take (Try.prog.cellsOf 22)) = xs[0]? := hfa 0 _ rfl
    have h1 : DataW.trod enc Try.prog W 0 (fun _ => true) true n 37 (([e0, e1, e2, e3].drop 1).take (Try.prog.cellsOf 37)) = xs[1]? := hfa 1 _ rfl
    have h2 : DataW.trod enc Try.prog W 0 (fun _ => true) true n 37 (([e0, e1, e2, e3].drop 2).take (Try.prog.cellsOf 37)) = xs[2]? := hfa 2 _ rfl
    have h3 : DataW.trod enc Try.prog W 0 (fun _ => true) true n 38 (([e0, e1, e2, e3].drop 3).take (Try.prog.cellsOf 38)) = xs[3]? := hfa 3 _ rfl
    obtain ⟨y0, g0⟩ := some_at (i := 0) hxl (by decide)
    obtain ⟨y1, g1⟩ := some_at (i := 1) hxl (by decide)
    obtain ⟨y2, g2⟩ := some_at (i := 2) hxl (by decide)
    obtain ⟨y3, g3⟩ := some_at (i := 3) hxl (by decide)
    rw [g0, PolOp.c1] at h0
    rw [g1, PolOp.c2] at h1
    rw [g2, PolOp.c2] at h2
    rw [g3, PolOp.c3] at h3
    obtain ⟨A1, k1, S, r1, a1, b1, d1⟩ := stmts_cell h0
    obtain ⟨A2, k2, G, r2, a2, b2, d2⟩ := roles_cell h1
    obtain ⟨A3, k3, R, r3, a3, b3, d3⟩ := roles_cell h2
    obtain ⟨A4, k4, Q, r4, a4, b4, d4⟩ := asks_cell h3
    subst r1; subst r2; subst r3; subst r4
    exact ⟨⟨S, G, R, Q⟩, A1, A2, A3, A4, k1, k2, k3, k4, rfl, ⟨a1, a2, a3, a4, b1, b2, b3, b4⟩, ⟨d1, d2, d3, d4⟩⟩
end
end Go.Proofs.Ytpjacngbkohmdaa.PolOp
/- Which statements are light. -/
namespace Go.Proofs.Ytpjacngbkohmdaa.TblM
set_option linter.unusedVariables false
set_option linter.unusedSimpArgs false
open Go.RowKit Go.Sort Go.Proofs Go.Proofs.Ytpjacngbkohmdaa.Plain Go.Proofs.Ytpjacngbkohmdaa.SynP Go.Proofs.Ytpjacngbkohmdaa.Grown Go.Proofs.Ytpjacngbkohmdaa.Syn1
set_option linter.unusedVariables false
set_option linter.unusedSimpArgs false
def textsOf (s : St) : List ByteArray := [s.who, s.via, s.head.owner, s.head.name, s.a.owner, s.a.name, s.b.owner, s.b.name]
def lightL (l : List ByteArray) : Bool := l.all fun x => decide (x.size ≤ 40)
def lightS (s : St) : Bool := lightL (textsOf s)
theorem light_no {l : List ByteArray} {k : Nat} (h : k < l.length) (hk : ¬ l[k].size ≤ 40) : lightL l = false := by
  unfold lightL
  rw [List.all_eq_false]
  exact ⟨l[k], List.getElem_mem _, by simp; omega⟩
theorem light_yes {l : List ByteArray} (h : ∀ k, (hk : k < l.length) → l[k].size ≤ 40) : lightL l = true := by
  unfold lightL
  rw [List.all_eq_true]
  intro x hx
  obtain ⟨k, hk, rfl⟩ := List.getElem_of_mem hx
  simpa using h k hk
set_option maxRecDepth 100000 in
theorem light (s : St) (w : World) : Calls Try.prog 8 #[s.val] w fun e w' => e = .returned (.bool (lightS s)) ∧ Grew w w' := by
  have hl : (textsOf s).length = 8 := rfl
  obtain ⟨k1, ⟨ho, hn⟩, wh, ⟨ao, an⟩, ⟨bo, bn⟩, v⟩ := s
  have hT : textsOf ⟨k1, ⟨ho, hn⟩, wh, ⟨ao, an⟩, ⟨bo, bn⟩, v⟩ = [wh, v, ho, hn, ao, an, bo, bn] := rfl
  unfold lightS
  unfold St.val
  go_enter Try.func8, Try.ntmps8
  go_wp2
  have hrow : ∀ k, (h : k < (textsOf ⟨k1, ⟨ho, hn⟩, wh, ⟨ao, an⟩, ⟨bo, bn⟩, v⟩).length) → ((w.alloc (.cells #[.int .i64 k1, .string ho, .string hn, .string wh, .string ao, .string an, .string bo, .string bn, .string v] 26)).alloc (.cells #[.string wh, .string v, .string ho, .string hn, .string ao, .string an, .string bo, .string bn] 9)).cell? ⟨w.heap.size + 1, k, none⟩ = some (.string (textsOf ⟨k1, ⟨ho, hn⟩, wh, ⟨ao, an⟩, ⟨bo, bn⟩, v⟩)[k]) := fun k h => by
    have := Lib.cell_of_heap (heap_alloc_new (w.alloc (.cells #[.int .i64 k1, .string ho, .string hn, .string wh, .string ao, .string an, .string bo, .string bn, .string v] 26)) (.cells #[.string wh, .string v, .string ho, .string hn, .string ao, .string an, .string bo, .string bn] 9)) k
    rw [World.size_alloc] at this
    rw [this]
    match k, h with
    | 0, _ => rfl
    | 1, _ => rfl
    | 2, _ => rfl
    | 3, _ => rfl
    | 4, _ => rfl
    | 5, _ => rfl
    | 6, _ => rfl
    | 7, _ => rfl
  clear hT
  have Hrow := Lib.hid hrow
  have Hl := Lib.hid hl
  clear hrow hl
  generalize hE : textsOf ⟨k1, ⟨ho, hn⟩, wh, ⟨ao, an⟩, ⟨bo, bn⟩, v⟩ = l at *
  have HE := Lib.hid hE
  clear hE
  go_loop [29] (fun i => ∃ k : Nat, k ≤ 8 ∧ i = .int .i64 k ∧ Hid (∀ j, (h : j < l.length) → j < k → l[j].size ≤ 40)) (fun i => 8 - (intOf i).toNat)
  case atStart => exact ⟨0, by omega, rfl, Lib.hid fun j _ hj => by omega⟩
  case round =>
    obtain ⟨k, hk, rfl, hall⟩ := hrel
    by_cases hlt : k < 8
    · have hkl : k < l.length := by rw [Hl.out]; exact hlt
      have hc := Hrow.out k hkl
      have p1 : (0 : Int) ≤ k := by omega
      have p2 : (k : Int) < 8 := by omega
      by_cases h40 : l[k].size ≤ 40
      · have hnext : Hid (∀ j, (h : j < l.length) → j < k + 1 → l[j].size ≤ 40) := Lib.hid fun j h hj => by
          by_cases e : j = k
          · subst e; exact h40
          · exact hall.out j h (by omega)
        clear hall
        go_wp2_with fail
        go_round
        case rel => exact ⟨k + 1, by omega, by go_num, hnext⟩
        case measure => simp [intOf]; omega
      · have hf := Lib.hid (light_no hkl h40)
        have h41 : 40 < l[k].size := by omega
        clear hall h40
        go_wp2_with fail
        go_ret
        exact ⟨ret_bool (by rw [HE.out]; exact hf.out.symm), ((Grew.refl _).alloc _).alloc _⟩
    · have hf := Lib.hid (light_yes (fun j h => hall.out j h (by rw [Hl.out] at h; omega)))
      clear hall
      go_wp2_with fail
      go_ret
      exact ⟨ret_bool (by rw [HE.out]; exact hf.out.symm), ((Grew.refl _).alloc _).alloc _⟩
theorem light_size {s : St} (h : lightS s = true) : s.head.owner.size ≤ 1000 ∧ s.head.name.size ≤ 1000 := by
  unfold lightS lightL textsOf at h
  simp at h
  omega
end Go.Proofs.Ytpjacngbkohmdaa.TblM
