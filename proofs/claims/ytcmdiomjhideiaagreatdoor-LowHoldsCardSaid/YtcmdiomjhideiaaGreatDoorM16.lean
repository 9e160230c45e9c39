/- state: among, Is, Has, Union, Minus, About, Same, by contract. -/
import Derived.Test.YtcmdiomjhideiaaGreatDoorM15
import Derived.Test.YtcmdiomjhideiaaGreatDoorM05
import Derived.Test.YtcmdiomjhideiaaGreatDoorM01
import Derived.Test.YtcmdiomjhideiaaGreatDoorProg
import Derived.WalkKit
import Derived.Below
import Derived.Lib.Hide
import Derived.Lib.Builder
import Derived.Outline
import Derived.Laws.Bits64b
import Derived.Deep.MidRow
import Derived.Laws.MakeOwn
import Derived.RegionTactic
import Derived.Deep.RegionWith
import Derived.Deep.QuietTactic
import Derived.BigQuiet
import Derived.ProofKit
import Derived.IntWalk
import Derived.WalkLawsBesides
import Derived.WalkSpells
import Derived.Deep.RegionHeld3
import Derived.Test.YtcmdiomjhideiaaGreatDoorM10
import Derived.Test.YtcmdiomjhideiaaGreatDoorM06
import Derived.StillTailTactics
import Derived.Laws.Rows
import Derived.Deep.CutBlock
import Derived.Deep.LoopGhost
import Derived.Test.YtcmdiomjhideiaaGreatDoorM04
namespace Go.Proofs.YtcmdiomjhideiaaGreatDoor.StF
set_option linter.unusedVariables false
set_option linter.unusedSimpArgs false
open Go.Shelf Go.RowKit Go.Sort Go.Lib Go.Proofs Go.Proofs.YtcmdiomjhideiaaGreatDoor.Plain Go.Proofs.YtcmdiomjhideiaaGreatDoor.SynP Go.Proofs.YtcmdiomjhideiaaGreatDoor.Grown Go.Proofs.YtcmdiomjhideiaaGreatDoor.SynC Go.Proofs.YtcmdiomjhideiaaGreatDoor.SynD Go.Proofs.YtcmdiomjhideiaaGreatDoor.SynD2 Go.Proofs.YtcmdiomjhideiaaGreatDoor.SynD3 Go.Proofs.YtcmdiomjhideiaaGreatDoor.SynD7 Go.Proofs.YtcmdiomjhideiaaGreatDoor.SynD8 Go.Proofs.YtcmdiomjhideiaaGreatDoor.PolE Go.Proofs.YtcmdiomjhideiaaGreatDoor.StA Go.Proofs.YtcmdiomjhideiaaGreatDoor.StB Go.Proofs.YtcmdiomjhideiaaGreatDoor.StC Go.Proofs.YtcmdiomjhideiaaGreatDoor.StD Go.Proofs.YtcmdiomjhideiaaGreatDoor.StE
set_option linter.unusedVariables false
set_option linter.unusedSimpArgs false
theorem sort_mem {L : List St} {s : St} : s ∈ sortL cmpS [] L ↔ s ∈ L := by rw [sortL_mem]; simp
end Go.Proofs.YtcmdiomjhideiaaGreatDoor.StF
/- state: About, MayCome, MayGo, Added, Gone, Reaches, by contract. -/
namespace Go.Proofs.YtcmdiomjhideiaaGreatDoor.StG
set_option linter.unusedVariables false
set_option linter.unusedSimpArgs false
open Go.Shelf Go.RowKit Go.Sort Go.Lib Go.Proofs Go.Proofs.YtcmdiomjhideiaaGreatDoor.Plain Go.Proofs.YtcmdiomjhideiaaGreatDoor.SynP Go.Proofs.YtcmdiomjhideiaaGreatDoor.Grown Go.Proofs.YtcmdiomjhideiaaGreatDoor.SynC Go.Proofs.YtcmdiomjhideiaaGreatDoor.SynD Go.Proofs.YtcmdiomjhideiaaGreatDoor.SynD2 Go.Proofs.YtcmdiomjhideiaaGreatDoor.SynD3 Go.Proofs.YtcmdiomjhideiaaGreatDoor.QryP Go.Proofs.YtcmdiomjhideiaaGreatDoor.PolA Go.Proofs.YtcmdiomjhideiaaGreatDoor.PolE Go.Proofs.YtcmdiomjhideiaaGreatDoor.StA Go.Proofs.YtcmdiomjhideiaaGreatDoor.StB Go.Proofs.YtcmdiomjhideiaaGreatDoor.StC Go.Proofs.YtcmdiomjhideiaaGreatDoor.StD Go.Proofs.YtcmdiomjhideiaaGreatDoor.StE Go.Proofs.YtcmdiomjhideiaaGreatDoor.StF
set_option linter.unusedVariables false
set_option linter.unusedSimpArgs false
def come (p : Py) (s : St) : Bool := s.right && !decide (s.head ∈ p.grow)
def go_ (p : Py) (s : St) : Bool := !decide (s.head ∈ p.shrink)
def reach (p : Py) (C : List St) : Bool := (C.all fun s => (s.right && decide (s ∈ p.stmts)) || come p s) && ((sortL cmpS [] p.stmts).filter fun s => !decide (s ∈ C)).all (go_ p)
/-- Two boxes: of a policy, of a statement. -/
theorem two (w : World) (A1 A2 A3 A4 : Option Addr) (c1 c2 c3 c4 : Nat) (S : List St) (G H : List Rl) (Q : List Qy) (k1 : Int) (ho hn wh ao an bo bn v1 : ByteArray) :
    Below w.heap.size w ((w.alloc (.cells #[.slice A1 S.length c1, .slice A2 G.length c2, .slice A3 H.length c3, .slice A4 Q.length c4] 26)).alloc (.cells #[.int .i64 k1, .string ho, .string hn, .string wh, .string ao, .string an, .string bo, .string bn, .string v1] 55)) ∧
    (∀ o, ((w.alloc (.cells #[.slice A1 S.length c1, .slice A2 G.length c2, .slice A3 H.length c3, .slice A4 Q.length c4] 26)).alloc (.cells #[.int .i64 k1, .string ho, .string hn, .string wh, .string ao, .string an, .string bo, .string bn, .string v1] 55)).cell? ⟨w.heap.size, o, none⟩ = (#[.slice A1 S.length c1, .slice A2 G.length c2, .slice A3 H.length c3, .slice A4 Q.length c4] : Array Value)[o]?) ∧
    (∀ o, ((w.alloc (.cells #[.slice A1 S.length c1, .slice A2 G.length c2, .slice A3 H.length c3, .slice A4 Q.length c4] 26)).alloc (.cells #[.int .i64 k1, .string ho, .string hn, .string wh, .string ao, .string an, .string bo, .string bn, .string v1] 55)).cell? ⟨w.heap.size + 1, o, none⟩ = (#[.int .i64 k1, .string ho, .string hn, .string wh, .string ao, .string an, .string bo, .string bn, .string v1] : Array Value)[o]?) :=
  ⟨((Below.refl _ _).alloc (Nat.le_refl _) _).alloc (by simp) _, fun o => Lib.cell_of_heap (heap_alloc2_old w _ _) o, fun o => Lib.cell_of_heap (heap_alloc2_new w _ _) o⟩
set_option maxRecDepth 100000 in
theorem mayGo (p : Py) (A1 A2 A3 A4 : Option Addr) (c1 c2 c3 c4 : Nat) (s : St) (w : World) (hg : p.shrink.length ≤ 10000) (hA : RG w A3 p.shrink) :
    Calls Tryz.prog 136 #[p.val A1 A2 A3 A4 c1 c2 c3 c4, s.val] w fun e w' => e = .returned (.bool (go_ p s)) ∧ Below w.heap.size w w' := by
  obtain ⟨S, G, H, Q⟩ := p
  have HHa := Lib.hid (fun w' (h : RG w' A3 H) => PolK.has_ A3 c3 H s.head w' hg h)
  unfold go_
  obtain ⟨k1, ⟨ho, hn⟩, wh, ⟨ao, an⟩, ⟨bo, bn⟩, v1⟩ := s
  unfold St.val
  unfold Rl.val at HHa
  dsimp only at HHa ⊢
  generalize decide ((⟨ho, hn⟩ : Rl) ∈ H) = m at *
  obtain ⟨hbX, d1, d2⟩ := two w A1 A2 A3 A4 c1 c2 c3 c4 S G H Q k1 ho hn wh ao an bo bn v1
  have HH1 := Lib.hid (HHa.out _ (hA.below hbX))
  have HB := Lib.hid hbX
  clear hbX hA HHa
  show Calls _ _ #[.agg #[.slice A1 S.length c1, .slice A2 G.length c2, .slice A3 H.length c3, .slice A4 Q.length c4], _] _ _
  go_enter Tryz.func136, Tryz.ntmps136
  go_upto_region 1 with fail
  generalize (w.alloc (.cells #[.slice A1 S.length c1, .slice A2 G.length c2, .slice A3 H.length c3, .slice A4 Q.length c4] 26)).alloc (.cells #[.int .i64 k1, .string ho, .string hn, .string wh, .string ao, .string an, .string bo, .string bn, .string v1] 55) = w0 at *
  go_wp2_with fail
  refine HH1.out.mono ?_
  rintro e w2 ⟨rfl, hb2⟩
  have HB2 := Lib.hid (nx HB.out hb2)
  clear hb2 d1 d2 HH1
  go_wp2_with fail
  go_ret
  exact ⟨rfl, HB2.out⟩
/-- One box, of a policy. -/
theorem one (w : World) (A1 A2 A3 A4 : Option Addr) (c1 c2 c3 c4 : Nat) (S : List St) (G H : List Rl) (Q : List Qy) :
    Below w.heap.size w (w.alloc (.cells #[.slice A1 S.length c1, .slice A2 G.length c2, .slice A3 H.length c3, .slice A4 Q.length c4] 26)) ∧ (∀ o, (w.alloc (.cells #[.slice A1 S.length c1, .slice A2 G.length c2, .slice A3 H.length c3, .slice A4 Q.length c4] 26)).cell? ⟨w.heap.size, o, none⟩ = (#[.slice A1 S.length c1, .slice A2 G.length c2, .slice A3 H.length c3, .slice A4 Q.length c4] : Array Value)[o]?) :=
  ⟨below_alloc w _, fun o => Lib.cell_of_heap (heap_alloc_new w _) o⟩
/-- A policy in a box. -/
def PBox (w : World) (b : Nat) (p : Py) : Prop := ∃ A1 A2 A3 A4 c1 c2 c3 c4, w.heap[b]? = some (.cells #[.slice A1 p.stmts.length c1, .slice A2 p.grow.length c2, .slice A3 p.shrink.length c3, .slice A4 p.asks.length c4] 26 (0, 0)) ∧ RG w A2 p.grow ∧ RG w A3 p.shrink
theorem PBox.below {w w' : World} {b : Nat} {p : Py} (h : PBox w b p) (hb : Below w.heap.size w w') : PBox w' b p := by
  obtain ⟨A1, A2, A3, A4, c1, c2, c3, c4, h1, h2, h3⟩ := h
  exact ⟨A1, A2, A3, A4, c1, c2, c3, c4, (hb.block b (Array.getElem?_eq_some_iff.1 h1).1).trans h1, h2.below hb, h3.below hb⟩
end Go.Proofs.YtcmdiomjhideiaaGreatDoor.StG
/- What may not go, and what is picked by it: low.pick and low.Minimal, by contract. -/
namespace Go.Proofs.YtcmdiomjhideiaaGreatDoor.LwG
set_option linter.unusedVariables false
set_option linter.unusedSimpArgs false
open Go.Shelf Go.RowKit Go.Sort Go.Lib Go.Proofs Go.Proofs.YtcmdiomjhideiaaGreatDoor.Plain Go.Proofs.YtcmdiomjhideiaaGreatDoor.SynP Go.Proofs.YtcmdiomjhideiaaGreatDoor.Grown Go.Proofs.YtcmdiomjhideiaaGreatDoor.SynC Go.Proofs.YtcmdiomjhideiaaGreatDoor.SynD Go.Proofs.YtcmdiomjhideiaaGreatDoor.SynD2 Go.Proofs.YtcmdiomjhideiaaGreatDoor.SynD3 Go.Proofs.YtcmdiomjhideiaaGreatDoor.SynD7 Go.Proofs.YtcmdiomjhideiaaGreatDoor.SynD8 Go.Proofs.YtcmdiomjhideiaaGreatDoor.PolA Go.Proofs.YtcmdiomjhideiaaGreatDoor.PolE Go.Proofs.YtcmdiomjhideiaaGreatDoor.StA Go.Proofs.YtcmdiomjhideiaaGreatDoor.StB Go.Proofs.YtcmdiomjhideiaaGreatDoor.StC Go.Proofs.YtcmdiomjhideiaaGreatDoor.StD Go.Proofs.YtcmdiomjhideiaaGreatDoor.StG
set_option linter.unusedVariables false
set_option linter.unusedSimpArgs false
/-- What low's closure answers, its captured value in block b. -/
def NotAt (w : World) (b : Nat) (p : St → Bool) : Prop := ∀ s : St, s.fit → Calls Tryz.prog 135 #[s.val, .pointer (some ⟨b, 0, none⟩)] w fun e wx => e = .returned (.bool (!p s)) ∧ Below w.heap.size w wx
set_option maxHeartbeats 1000000 in
set_option maxRecDepth 100000 in
theorem idx (A : Option Addr) (ca b : Nat) (p : St → Bool) (T : List St) (w : World) (hT : T.length ≤ 100000) (hA : SG w A T) (hf : ∀ s ∈ T, s.fit) (hn : ∀ w', Below w.heap.size w w' → NotAt w' b p) :
    Calls Tryz.prog 179 #[.slice A T.length ca, .func (.func 135) #[] #[.pointer (some ⟨b, 0, none⟩)]] w (IdxPost p T w) := by
  have HA := Lib.hid (fun w' (hb : Below w.heap.size w w') => hA.below hb)
  have HN := Lib.hid hn
  have HFT := Lib.hid hf
  clear hA hn hf
  go_enter Tryz.func179, Tryz.ntmps179
  go_wp2_with fail
  go_loopw [8] (fun i wr => ∃ k : Nat, k ≤ T.length ∧ i = .int .i64 k ∧ Below w.heap.size w wr ∧ Hid (∀ j, (hj : j < k) → ∃ h : j < T.length, p T[j] = true)) (fun i _ => T.length - (intOf i).toNat)
  case atStart => exact ⟨0, by omega, rfl, Below.refl _ _, Lib.hid (fun j hj => by omega)⟩
  case round =>
    obtain ⟨k, hk, rfl, hb, hall⟩ := hrel
    have HB := Lib.hid hb
    by_cases hlt : k < T.length
    · have e1 : decide ((k : Int) < T.length) = true := by simp; omega
      obtain ⟨g, o, rfl, hg, hc⟩ := HA.out _ hb (by omega)
      obtain ⟨a0, a1, a2, a3, a4, a5, a6, a7, a8⟩ := hc k hlt
      have HFk := Lib.hid (HN.out _ hb T[k] (HFT.out _ (List.getElem_mem hlt)))
      have HNX : Hid (p T[k] = true → ∀ j, (hj : j < k + 1) → ∃ h : j < T.length, p T[j] = true) := Lib.hid (fun h j hj => by
        by_cases e : j = k
        · subst e; exact ⟨hlt, h⟩
        · exact hall.out j (by omega))
      have HST : Hid (p T[k] = false → ∀ w', Below w.heap.size w w' → IdxPost p T w (.returned (.int .i64 k)) w') := Lib.hid (fun h w' hb => ⟨hb, .inr ⟨k, hlt, rfl, fun j hj => (hall.out j hj).2, h⟩⟩)
      have q0 : (0 : Int) ≤ k := by omega
      have q1 : (k : Int) < T.length := by omega
      clear hc hb hall hg
      generalize T[k] = x at *
      obtain ⟨k1, ⟨ho, hn⟩, wh, ⟨ao, an⟩, ⟨bo, bn⟩, v1⟩ := x
      unfold St.val at HFk
      simp only at HFk a0 a1 a2 a3 a4 a5 a6 a7 a8
      cases hpx : p ⟨k1, ⟨ho, hn⟩, wh, ⟨ao, an⟩, ⟨bo, bn⟩, v1⟩
      · rw [hpx] at HFk
        have HE := Lib.hid (HST.out hpx)
        clear hpx HST HNX
        go_wp2_with fail
        refine HFk.out.mono ?_
        rintro e w1 ⟨rfl, hb1⟩
        have HB1 := Lib.hid (nx HB.out hb1)
        clear hb1 a0 a1 a2 a3 a4 a5 a6 a7 a8
        go_wp2_with fail
        go_ret
        exact HE.out _ HB1.out
      · rw [hpx] at HFk
        have HE := Lib.hid (HNX.out hpx)
        clear hpx HST HNX
        go_wp2_with fail
        refine HFk.out.mono ?_
        rintro e w1 ⟨rfl, hb1⟩
        have HB1 := Lib.hid (nx HB.out hb1)
        clear hb1 a0 a1 a2 a3 a4 a5 a6 a7 a8
        go_wp2_with fail
        go_roundw
        case rel => exact ⟨k + 1, by omega, by go_num, HB1.out, HE⟩
        case measure => simp [intOf]; omega
    · have e1 : decide ((k : Int) < T.length) = false := by simp; omega
      have HE : Hid (T.all p = true) := Lib.hid (by
        rw [List.all_eq_true]
        intro x hx
        obtain ⟨j, hj, rfl⟩ := List.getElem_of_mem hx
        exact (hall.out j (by omega)).2)
      clear hall hb
      go_wp2_with fail
      go_ret
      exact ⟨HB.out, .inl ⟨rfl, HE.out⟩⟩
set_option maxHeartbeats 2000000 in
set_option maxRecDepth 100000 in
theorem del (g cap b : Nat) (d : Array St) (p : St → Bool) (w : World) (hs : d.size ≤ 100000) (hcap : d.size ≤ cap) (hcm : cap ≤ maxLen) (hH : HoldsK St.cells 9 w g 0 d) (hg : g < w.heap.size) (hlb : b < w.heap.size) (hne : b ≠ g) (hf : ∀ s ∈ d.toList, s.fit) (hn : ∀ w', BX g b w w' → w.heap.size ≤ w'.heap.size → NotAt w' b p) :
    Calls Tryz.prog 134 #[.slice (some ⟨g, 0, none⟩) d.size cap, .func (.func 135) #[] #[.pointer (some ⟨b, 0, none⟩)]] w (DelPost g cap b p d w) := by
  have HI : Hid (Calls Tryz.prog 179 #[.slice (some ⟨g, 0, none⟩) d.size cap, .func (.func 135) #[] #[.pointer (some ⟨b, 0, none⟩)]] w (IdxPost p d.toList w)) := Lib.hid (idx (some ⟨g, 0, none⟩) cap b p d.toList w (by simpa using hs) (sg_of_holds hH) hf (fun w' hb => hn w' ((BX.refl g b w).below hg hlb hb) hb.size))
  have HF := Lib.hid hn
  have HFT : Hid (∀ j, j < d.size → St.fit d[j]!) := Lib.hid (fun j hj => by
    rw [getElem!_pos d j hj]
    exact hf _ (by simp))
  have HH := Lib.hid hH
  have HN := Lib.hid (fun w' hb h => del_none (cap := cap) (b := b) (p := p) (w' := w') hH hg hlb hb h)
  clear hH hn hf
  have hm : maxLen = 9223372036854775807 := rfl
  go_enter Tryz.func134, Tryz.ntmps134
  go_wp2_with fail
  refine HI.out.mono ?_
  rintro e w1 ⟨hb1, ⟨rfl, hall⟩ | ⟨k, hk, rfl, hall, hno⟩⟩
  · have HE := Lib.hid (HN.out _ hb1 hall)
    clear hall hb1 HI HF HN
    go_wp2_with fail
    go_ret
    exact HE.out
  · have HS := Lib.hid (start_of hk hall hno)
    have HHK := Lib.hid (holds_block HH.out (hb1.block g hg))
    have HB1 := Lib.hid ((BX.refl g b w).below hg hlb hb1)
    have hz1 := hb1.size
    have hk2 : k < d.size := by simpa using hk
    clear hall hno hb1 HI HN hk
    have d1 : ((k : Int) == -1) = false := by first | (simp; done) | (simp; omega)
    go_wp2_with fail
    go_loopw [5, 6] (fun s5 s6 wr => ∃ (kk m : Nat) (dk : Array St), s5 = .int .i64 kk ∧ s6 = .int .i64 m ∧ m ≤ d.size ∧ Hid (HoldsK St.cells 9 wr g 0 dk) ∧ Hid (BX g b w wr) ∧ w.heap.size ≤ wr.heap.size ∧ Hid (DelInv p d m kk dk)) (fun _ s6 _ => d.size - (intOf s6).toNat)
    case atStart => exact ⟨k, k + 1, d, rfl, rfl, by omega, HHK, HB1, hz1, HS⟩
    case round =>
      obtain ⟨kk, m, dk, rfl, rfl, hm2, hHk, hbel, hszr, hI⟩ := hrel
      have hkk := hI.out.lt
      have hds := hI.out.size
      by_cases hlt : m < d.size
      · have e1 : decide ((m : Int) < d.size) = true := by simp; omega
        have c1 := nine hHk.out m (by omega)
        rw [hI.out.high m (Nat.le_refl _)] at c1
        have HSK := Lib.hid (fun h => hI.out.skip hlt h)
        have HKP := Lib.hid (fun h => hI.out.keep hlt h)
        have hfx := HFT.out m hlt
        have HFk := Lib.hid (fun w' hb hz => HF.out w' hb hz d[m]! hfx)
        generalize d[m]! = x at *
        obtain ⟨k1, ⟨ho, hn⟩, wh, ⟨ao, an⟩, ⟨bo, bn⟩, v1⟩ := x
        have a0 := c1 0 _ rfl
        have a1 := c1 1 _ rfl
        have a2 := c1 2 _ rfl
        have a3 := c1 3 _ rfl
        have a4 := c1 4 _ rfl
        have a5 := c1 5 _ rfl
        have a6 := c1 6 _ rfl
        have a7 := c1 7 _ rfl
        have a8 := c1 8 _ rfl
        rw [Nat.add_zero] at a0
        have q0 : (0 : Int) ≤ m := by omega
        have q1 : (m : Int) < d.size := by omega
        have q6 : (0 : Int) ≤ kk := by omega
        have q7 : (kk : Int) < d.size := by omega
        have hgr : g < wr.heap.size := by omega
        have hbr : b < wr.heap.size := by omega
        have HBA := Lib.hid (hbel.out.below hgr hbr (below_alloc wr (.cells #[.int .i64 k1, .string ho, .string hn, .string wh, .string ao, .string an, .string bo, .string bn, .string v1] 55)))
        have HHA := Lib.hid (holds_block hHk.out ((below_alloc wr (.cells #[.int .i64 k1, .string ho, .string hn, .string wh, .string ao, .string an, .string bo, .string bn, .string v1] 55)).block g hgr))
        have HBX := Lib.hid (heap_alloc_new wr (.cells #[.int .i64 k1, .string ho, .string hn, .string wh, .string ao, .string an, .string bo, .string bn, .string v1] 55))
        have HCL := Lib.hid (HFk.out _ HBA.out (by simp; omega))
        unfold St.val at HCL
        simp only at HCL
        clear c1 HF HFk HHK HB1 HS hfx
        go_upto_region 8 with fail
        have hszA : (wr.alloc (.cells #[.int .i64 k1, .string ho, .string hn, .string wh, .string ao, .string an, .string bo, .string bn, .string v1] 55)).heap.size = wr.heap.size + 1 := by simp
        generalize wr.alloc (.cells #[.int .i64 k1, .string ho, .string hn, .string wh, .string ao, .string an, .string bo, .string bn, .string v1] 55) = wa at *
        have cb := fun o => Lib.cell_of_heap HBX.out o
        clear a0 a1 a2 a3 a4 a5 a6 a7 a8
        cases hpx : p ⟨k1, ⟨ho, hn⟩, wh, ⟨ao, an⟩, ⟨bo, bn⟩, v1⟩
        · rw [hpx] at HCL
          have HI2 := Lib.hid (HSK.out hpx)
          clear hpx HSK HKP
          go_wp2_with fail
          refine HCL.out.mono ?_
          rintro e w2 ⟨rfl, hb2⟩
          have HH2 := Lib.hid (holds_block HHA.out (hb2.block g (by omega)))
          have HB2 := Lib.hid (HBA.out.below (by omega) (by omega) hb2)
          have hz2 := hb2.size
          clear hb2 cb HCL
          go_wp2_with fail
          go_roundw
          case rel => exact ⟨kk, m + 1, dk, rfl, by go_num, by omega, HH2, HB2, by omega, HI2⟩
          case measure => simp [intOf]; omega
        · rw [hpx] at HCL
          have HI2 := Lib.hid (HKP.out hpx)
          clear hpx HSK HKP
          go_wp2_with fail
          refine HCL.out.mono ?_
          rintro e w2 ⟨rfl, hb2⟩
          have HH2 := Lib.hid (holds_block HHA.out (hb2.block g (by omega)))
          have HB2 := Lib.hid (HBA.out.below (by omega) (by omega) hb2)
          have hz2 := hb2.size
          have cb2 := fun o => Lib.cell_of_heap ((hb2.block wr.heap.size (by omega)).trans HBX.out) o
          have hth := Lib.hid (there_of HH2.out kk (by omega))
          clear hb2 cb HCL
          go_wp2_with ((with_reducible refine wpList_store_mid (op := ⟨none, .store 55 (.tmp 33) (.tmp 32), _, _, _, none⟩) ?_ 55 (.tmp 33) (.tmp 32) ?_ g (kk * 9) (St.cells ⟨k1, ⟨ho, hn⟩, wh, ⟨ao, an⟩, ⟨bo, bn⟩, v1⟩).toArray ?_ ?_ ?_ ?_ ?_ ?_); (rfl); (rfl); (simp [Act.eval]); (simp [Act.eval, St.cells]); (exact hth.out); (exact infoSz); (exact all_oneCell_toArray (stcell_one _)))
          go_roundw
          case rel =>
            refine ⟨kk + 1, m + 1, dk.setIfInBounds kk ⟨k1, ⟨ho, hn⟩, wh, ⟨ao, an⟩, ⟨bo, bn⟩, v1⟩, by go_num, by go_num, by omega, Lib.hid ?_, Lib.hid (HB2.out.setCells hne _ _), by rw [size_setCells]; omega, HI2⟩
            exact store0 HH2.out kk (by omega) _
          case measure => simp [intOf]; omega
      · have e1 : decide ((m : Int) < d.size) = false := by simp; omega
        obtain rfl : m = d.size := by omega
        have hfin := Lib.hid (del_end (cap := cap) hHk.out hbel.out hne hszr hI.out)
        have hth := Lib.hid (there_all hHk.out kk (by omega))
        rw [hds] at hth
        clear hHk hbel hI HF
        go_wp2_with ((with_reducible refine wpList_clear_run (o := ⟨none, .call { callee := .builtin .clear, args := #[.tmp 38], argTypes := #[22] }, _, _, _, none⟩) _ ?_ (.tmp 38) 22 ?_ (.slice (some ⟨g, kk * 9, none⟩) (d.size - kk) (cap - kk)) ?_ (.tuple #[]) (wr.setCells g (kk * 9) (clr (d.size - kk))) ?_ ?_); (rfl); (rfl); (simp [Act.eval]); (exact run_clear9 _ g (kk * 9) (d.size - kk) (cap - kk) (by omega) hth.out _))
        go_ret
        exact hfin.out
def stays (p : Py) (s : St) : Bool := decide (s.head ∈ p.shrink)
def minS (p : Py) : List St := p.stmts.filter (stays p)
theorem keep (p : Py) (A1 A2 A3 A4 : Option Addr) (c1 c2 c3 c4 : Nat) (s : St) (w : World) (hg : p.shrink.length ≤ 10000) (hA : RG w A3 p.shrink) :
    Calls Tryz.prog 84 #[p.val A1 A2 A3 A4 c1 c2 c3 c4, s.val] w fun e w' => e = .returned (.bool (stays p s)) ∧ Below w.heap.size w w' := by
  obtain ⟨S, G, H, Q⟩ := p
  have HM := Lib.hid (fun w' (h : RG w' A3 H) => mayGo ⟨S, G, H, Q⟩ A1 A2 A3 A4 c1 c2 c3 c4 s w' hg h)
  unfold go_ at HM
  unfold stays
  obtain ⟨k1, ⟨ho, hn⟩, wh, ⟨ao, an⟩, ⟨bo, bn⟩, v1⟩ := s
  unfold St.val Py.val at *
  dsimp only at HM ⊢
  generalize decide ((⟨ho, hn⟩ : Rl) ∈ H) = m at *
  have hb1 : Below w.heap.size w ((w.alloc (.cells #[.slice A1 S.length c1, .slice A2 G.length c2, .slice A3 H.length c3, .slice A4 Q.length c4] 106)).alloc (.cells #[.int .i64 k1, .string ho, .string hn, .string wh, .string ao, .string an, .string bo, .string bn, .string v1] 55)) := ((Below.refl _ _).alloc (Nat.le_refl _) _).alloc (by simp) _
  have d1 := fun o => Lib.cell_of_heap (heap_alloc2_old w (.cells #[.slice A1 S.length c1, .slice A2 G.length c2, .slice A3 H.length c3, .slice A4 Q.length c4] 106) (.cells #[.int .i64 k1, .string ho, .string hn, .string wh, .string ao, .string an, .string bo, .string bn, .string v1] 55)) o
  have d2 := fun o => Lib.cell_of_heap (heap_alloc2_new w (.cells #[.slice A1 S.length c1, .slice A2 G.length c2, .slice A3 H.length c3, .slice A4 Q.length c4] 106) (.cells #[.int .i64 k1, .string ho, .string hn, .string wh, .string ao, .string an, .string bo, .string bn, .string v1] 55)) o
  have HH1 := Lib.hid (HM.out _ (hA.below hb1))
  have HB := Lib.hid hb1
  clear hb1 hA HM
  go_enter Tryz.func84, Tryz.ntmps84
  go_upto_region 1 with fail
  generalize (w.alloc (.cells #[.slice A1 S.length c1, .slice A2 G.length c2, .slice A3 H.length c3, .slice A4 Q.length c4] 106)).alloc (.cells #[.int .i64 k1, .string ho, .string hn, .string wh, .string ao, .string an, .string bo, .string bn, .string v1] 55) = w0 at *
  go_wp2_with fail
  refine HH1.out.mono ?_
  rintro e w2 ⟨rfl, hb2⟩
  have HB2 := Lib.hid (nx HB.out hb2)
  clear hb2 d1 d2 HH1
  go_wp2_with fail
  go_ret
  exact ⟨ret_bool (by cases m <;> rfl), HB2.out⟩
def KeepV (p : Py) (A1 A2 A3 A4 : Option Addr) (c1 c2 c3 c4 : Nat) : Value := .func (.func 84) #[p.val A1 A2 A3 A4 c1 c2 c3 c4] #[]
set_option maxRecDepth 100000 in
theorem pick1 (p : Py) (A1 A2 A3 A4 : Option Addr) (c1 c2 c3 c4 : Nat) (w : World) (hg : p.shrink.length ≤ 10000) (hA : RG w A3 p.shrink) (b : Nat) (hb : w.cell? ⟨b, 0, none⟩ = some (KeepV p A1 A2 A3 A4 c1 c2 c3 c4)) : NotAt w b (stays p) := fun s hs => by
  have lb := World.block_lt_of_cell? _ _ hb
  simp only at lb
  have HF := Lib.hid (fun w' (hb : Below w.heap.size w w') => keep p A1 A2 A3 A4 c1 c2 c3 c4 s w' hg (hA.below hb))
  generalize stays p s = ans at *
  unfold KeepV at hb
  obtain ⟨S, G, H, Q⟩ := p
  obtain ⟨k1, ⟨ho, hn⟩, wh, ⟨ao, an⟩, ⟨bo, bn⟩, v1⟩ := s
  unfold St.val Py.val at *
  simp only at HF hb ⊢
  have hbX := below_alloc w (.cells #[.int .i64 k1, .string ho, .string hn, .string wh, .string ao, .string an, .string bo, .string bn, .string v1] 55)
  have c1 := (hbX.cell (p := ⟨b, 0, none⟩) lb).trans hb
  have c2 := fun o => Lib.cell_of_heap (heap_alloc_new w (.cells #[.int .i64 k1, .string ho, .string hn, .string wh, .string ao, .string an, .string bo, .string bn, .string v1] 55)) o
  have HB := Lib.hid hbX
  have hcall := HF.out _ hbX
  clear hbX hb lb HF hs hA
  go_enter Tryz.func135, Tryz.ntmps135
  go_wp2_with fail
  refine hcall.mono ?_
  rintro e w1 ⟨rfl, hb1⟩
  go_wp2_with fail
  go_ret
  exact ⟨rfl, nx HB.out hb1⟩
set_option maxHeartbeats 1000000 in
set_option maxRecDepth 100000 in
theorem pick (p : Py) (A1 A2 A3 A4 : Option Addr) (c1 c2 c3 c4 : Nat) (w : World) (n1 : p.stmts.length ≤ 1000) (n3 : p.shrink.length ≤ 10000) (hf : ∀ s ∈ p.stmts, s.fit) (h1 : SG w A1 p.stmts) (h3 : RG w A3 p.shrink) :
    Calls Tryz.prog 83 #[.slice A1 p.stmts.length c1, KeepV p A1 A2 A3 A4 c1 c2 c3 c4] w (OwnPost (minS p) w) := by
  have hbF := below_alloc w (.cells #[KeepV p A1 A2 A3 A4 c1 c2 c3 c4] 85)
  have hcF := heap_alloc_new w (.cells #[KeepV p A1 A2 A3 A4 c1 c2 c3 c4] 85)
  have hsF : (w.alloc (.cells #[KeepV p A1 A2 A3 A4 c1 c2 c3 c4] 85)).heap.size = w.heap.size + 1 := by simp
  have HC := Lib.hid (cloneSt A1 c1 p.stmts _ (by omega) (SG.at_ (h1.below hbF)))
  have HP := Lib.hid (fun w' (hb : Below w.heap.size w w') (hc : w'.cell? ⟨w.heap.size, 0, none⟩ = some (KeepV p A1 A2 A3 A4 c1 c2 c3 c4)) => pick1 p A1 A2 A3 A4 c1 c2 c3 c4 w' n3 (h3.below hb) w.heap.size hc)
  have HFt := Lib.hid hf
  unfold minS
  generalize stays p = q at *
  generalize p.stmts = S at *
  unfold KeepV at *
  generalize p.val A1 A2 A3 A4 c1 c2 c3 c4 = pv at *
  clear hf h1 h3
  go_enter Tryz.func83, Tryz.ntmps83
  go_upto_region 1 with fail
  obtain ⟨w0, hw0⟩ : ∃ x, w.alloc (.cells #[.func (.func 84) #[pv] #[]] 85) = x := ⟨_, rfl⟩
  rw [hw0] at hbF hcF hsF HC ⊢
  obtain ⟨b, hbb⟩ : ∃ b, w.heap.size = b := ⟨_, rfl⟩
  have HB0 := Lib.hid hbF
  have HCF := Lib.hid hcF
  clear hw0 hbF hcF
  go_wp2_with fail
  refine HC.out.mono ?_
  rintro e w1 ⟨v, rfl, hown, hb1⟩
  have HB1 := Lib.hid (nx HB0.out hb1)
  have HF1 := Lib.hid ((hb1.block w.heap.size (by omega)).trans HCF.out)
  have hz1 := hb1.size
  clear HC hb1
  rcases holds_own hown with ⟨rfl, rfl⟩ | ⟨g, cap, rfl, hc, hB, hg, hH⟩
  · clear hown
    go_wp2_with fail
    refine (delNone _ _).mono ?_
    rintro e w2 ⟨rfl, rfl⟩
    go_wp2_with fail
    go_ret
    exact ⟨_, rfl, .inl ⟨rfl, rfl⟩, HB1.out⟩
  · have hcm : cap ≤ maxLen := by
      rcases hown.2 with ⟨e, _⟩ | ⟨g', cap', cur, e, _, _, _, hm, _⟩
      · cases e
      · injection e with _ _ e; rw [e]; exact hm
    have HD := Lib.hid (del g cap w.heap.size S.toArray q w1 (by simp; omega) (by simpa using hc) hcm hH hg (by omega) (by omega) (by simpa using HFt.out) (fun w' hx hz => HP.out w' (HB1.out.trans (hx.lo.mono (by omega))) (Lib.cell_of_heap (hx.k.trans HF1.out) 0)))
    rw [List.size_toArray, hbb] at HD
    have HX := Lib.hid (And.intro hc (And.intro hcm (And.intro hB hg)))
    clear hown hc hcm hB hg hH HP HFt
    go_wp2_with fail
    refine HD.out.mono ?_
    rintro e w3 ⟨d', rfl, hd', hH', hx, hz3⟩
    have HE : Hid (OwnPost (S.filter q) w (.returned (.slice (some ⟨g, 0, none⟩) d'.size cap)) w3) := Lib.hid (by
      obtain ⟨k2, k3, k4, k5⟩ := HX.out
      have hd2 : d'.toList = S.filter q := by rw [hd']
      have hle : d'.size ≤ S.length := by
        rw [← Array.length_toList, hd2]
        exact List.length_filter_le _ _
      exact ⟨_, rfl, .inr ⟨g, cap, d', rfl, hd2, by omega, k3, by omega, by omega, hH'⟩, HB1.out.trans (hx.lo.mono (by omega))⟩)
    clear hd' hH' hx hz3 HD
    go_wp2_with fail
    go_ret
    exact HE.out
set_option maxRecDepth 100000 in
theorem minimal (p : Py) (A1 A2 A3 A4 : Option Addr) (c1 c2 c3 c4 : Nat) (w : World) (n1 : p.stmts.length ≤ 1000) (n3 : p.shrink.length ≤ 10000) (hf : ∀ s ∈ p.stmts, s.fit) (h1 : SG w A1 p.stmts) (h3 : RG w A3 p.shrink) :
    Calls Tryz.prog 23 #[p.val A1 A2 A3 A4 c1 c2 c3 c4] w (OwnPost (minS p) w) := by
  obtain ⟨M, hM⟩ : ∃ M, minS p = M := ⟨_, rfl⟩
  have HP := Lib.hid (fun w' (hb : Below w.heap.size w w') => pick p A1 A2 A3 A4 c1 c2 c3 c4 w' n1 n3 hf (h1.below hb) (h3.below hb))
  rw [hM] at HP ⊢
  obtain ⟨S, G, H, Q⟩ := p
  unfold KeepV Py.val at *
  dsimp only at HP ⊢
  have hbX := below_alloc w (.cells #[.slice A1 S.length c1, .slice A2 G.length c2, .slice A3 H.length c3, .slice A4 Q.length c4] 26)
  have HB := Lib.hid hbX
  have HP1 := Lib.hid (HP.out _ hbX)
  have cs := fun o => Lib.cell_of_heap (heap_alloc_new w (.cells #[.slice A1 S.length c1, .slice A2 G.length c2, .slice A3 H.length c3, .slice A4 Q.length c4] 26)) o
  clear hbX HP hM h1 h3 hf n1 n3
  go_enter Tryz.func23, Tryz.ntmps23
  go_upto_region 1 with fail
  generalize w.alloc (.cells #[.slice A1 S.length c1, .slice A2 G.length c2, .slice A3 H.length c3, .slice A4 Q.length c4] 26) = w0 at *
  go_wp2_with fail
  refine HP1.out.mono ?_
  intro e w1 hp
  obtain ⟨v, rfl, ho, hb1⟩ := hp
  have HE : Hid (OwnPost M w (.returned v) w1) := Lib.hid ⟨v, rfl, ho.mono HB.out.size, nx HB.out hb1⟩
  obtain ⟨A, c, rfl, _⟩ := ho.form
  clear cs hb1 ho HP1
  go_wp2_with fail
  go_ret
  exact HE.out
end Go.Proofs.YtcmdiomjhideiaaGreatDoor.LwG
/- Rules: their numbers, and a block that holds one. -/
namespace Go.Proofs.YtcmdiomjhideiaaGreatDoor.TblC
set_option linter.unusedVariables false
set_option linter.unusedSimpArgs false
open Go.RowKit Go.Lib Go.Proofs Go.Proofs.YtcmdiomjhideiaaGreatDoor.Plain
set_option linter.unusedVariables false
set_option linter.unusedSimpArgs false
/-- A rule's numbers. -/
structure Ru where
  kind : Int
  head : Int
  who : Int
  a : Int
  b : Int
  via : Int
deriving DecidableEq
def Ru.cells (r : Ru) : Array Value := #[.int .i64 r.kind, .int .i64 r.head, .int .i64 r.who, .int .i64 r.a, .int .i64 r.b, .int .i64 r.via]
def Ru.val (r : Ru) : Value := .agg #[.int .i64 r.kind, .int .i64 r.head, .int .i64 r.who, .int .i64 r.a, .int .i64 r.b, .int .i64 r.via]
def zeroU : Ru := ⟨0, 0, 0, 0, 0, 0⟩
/-- The rule lies in block r, and block r alone was written. -/
def RuAt (w : World) (r : Nat) (u : Ru) : Prop := w.heap[r]? = some (.cells u.cells 143 (0, 0))
def Ru.set (u : Ru) (o : Nat) (v : Int) : Ru :=
  if o = 1 then { u with head := v } else if o = 2 then { u with who := v } else if o = 3 then { u with a := v } else if o = 4 then { u with b := v } else if o = 5 then { u with via := v } else u
theorem RuAt.lt {w : World} {r : Nat} {u : Ru} (h : RuAt w r u) : r < w.heap.size := (Array.getElem?_eq_some_iff.1 h).1
theorem RuAt.cell {w : World} {r : Nat} {u : Ru} (h : RuAt w r u) (o : Nat) : w.cell? ⟨r, o, none⟩ = u.cells[o]? := Lib.cell_of_heap h o
theorem RuAt.free {w : World} {r : Nat} {u : Ru} (h : RuAt w r u) (o : Nat) : w.frozen? ⟨r, o, none⟩ = false := frozen_of_row _ _ _ _ _ h
theorem RuAt.put {w : World} {r : Nat} {u : Ru} (h : RuAt w r u) (o : Nat) (h1 : 1 ≤ o) (h5 : o ≤ 5) (v : Int) : RuAt (w.setCell ⟨r, o, none⟩ (.int .i64 v)) r (u.set o v) := by
  unfold RuAt
  rw [heap_setCell_same _ _ _ _ _ _ h]
  congr 2
  match o, h1, h5 with
  | 1, _, _ => rfl
  | 2, _, _ => rfl
  | 3, _, _ => rfl
  | 4, _, _ => rfl
  | 5, _, _ => rfl
theorem RuAt.below {w w' : World} {r : Nat} {u : Ru} (h : RuAt w r u) (hb : RowKit.Below w.heap.size w w') : RuAt w' r u := (hb.block r h.lt).trans h
theorem grew_set (w : World) (a : Addr) (v : Value) : w.grownBy (w.setCell a v) (some a.block) := ⟨rfl, rfl, rfl, by simp [World.setCell], fun k hk hne => Below.heap_setCell _ _ _ _ (fun e => hne (by rw [e]))⟩
theorem below_set {w w1 : World} {a : Addr} {v : Value} (hb : RowKit.Below w.heap.size w w1) : w.grownBy (w1.setCell a v) (some a.block) :=
  ⟨hb.os, hb.tape, hb.output, by simpa [World.setCell] using hb.size, fun k hk hne => (Below.heap_setCell _ _ _ _ (fun e => hne (by rw [e]))).trans (hb.block k hk)⟩
theorem grew_trans {w w1 w2 : World} {r : Nat} (h : w.grownBy w1 (some r)) (h2 : w1.grownBy w2 (some r)) : w.grownBy w2 (some r) :=
  ⟨h2.os.trans h.os, h2.tape.trans h.tape, h2.output.trans h.output, Nat.le_trans h.size h2.size, fun k hk hne => (h2.block k (Nat.lt_of_lt_of_le hk h.size) hne).trans (h.block k hk hne)⟩
theorem below_grew {w w1 w2 : World} {r : Nat} (h2 : RowKit.Below w.heap.size w w1) (h : w1.grownBy w2 (some r)) : w.grownBy w2 (some r) :=
  ⟨h.os.trans h2.os, h.tape.trans h2.tape, h.output.trans h2.output, Nat.le_trans h2.size h.size, fun k hk hne => (h.block k (Nat.lt_of_lt_of_le hk h2.size) hne).trans (h2.block k hk)⟩
def PutPost (v : Int) (u : Ru) (o r : Nat) (w : World) (e : Ending) (w' : World) : Prop := e = .returned (.bool (decide (0 ≤ v))) ∧ RuAt w' r (u.set o v) ∧ w.grownBy w' (some r)
end Go.Proofs.YtcmdiomjhideiaaGreatDoor.TblC
namespace Go.Proofs.YtcmdiomjhideiaaGreatDoor.TblB
open Go.RowKit Go.Lib Go.Proofs
set_option linter.unusedVariables false
set_option linter.unusedSimpArgs false
theorem below_setRow {B : Nat} {a w : World} (h : RowKit.Below B a w) {g : Nat} (hg : B ≤ g) (cs : Array Value) : RowKit.Below B a (w.setRow g cs) :=
  ⟨h.os, h.tape, h.output, by simpa using h.size, fun k hk => (setRow_other _ _ _ _ (by omega)).trans (h.block k hk)⟩
end Go.Proofs.YtcmdiomjhideiaaGreatDoor.TblB
namespace Go.Proofs.YtcmdiomjhideiaaGreatDoor.TblF
open Go.RowKit Go.Lib Go.Proofs Go.Proofs.YtcmdiomjhideiaaGreatDoor.TblC
set_option linter.unusedVariables false
set_option linter.unusedSimpArgs false
theorem infoRule : (Tryz.prog.info? 143).map (·.size) = some 6 := by kernel_rfl
theorem cell_rule {w : World} {n : Nat} {old : Array Value} {u : Ru} (h : w.heap[n]? = some (.cells old 143 (0, 0))) (o : Nat) : (w.setRow n u.cells).cell? ⟨n, o, none⟩ = (#[.int .i64 u.kind, .int .i64 u.head, .int .i64 u.who, .int .i64 u.a, .int .i64 u.b, .int .i64 u.via] : Array Value)[o]? := cell_setRow_same w n o old u.cells _ _ h
theorem one6 (u : Ru) : u.cells.all (·.oneCell') = true :=
  all_oneCell_toArray (cs := [.int .i64 u.kind, .int .i64 u.head, .int .i64 u.who, .int .i64 u.a, .int .i64 u.b, .int .i64 u.via]) (fun v hv => by simp at hv; rcases hv with rfl | rfl | rfl | rfl | rfl | rfl <;> rfl)
end Go.Proofs.YtcmdiomjhideiaaGreatDoor.TblF
namespace Go.Proofs.YtcmdiomjhideiaaGreatDoor.TblV
open Go.RowKit Go.Lib Go.Proofs Go.Proofs.YtcmdiomjhideiaaGreatDoor.TblC
set_option linter.unusedVariables false
set_option linter.unusedSimpArgs false
/-- Rules as cells. -/
def cellsR (L : List Ru) : List Value := L.flatMap fun u => u.cells.toList
theorem cellsR_len (L : List Ru) : (cellsR L).length = L.length * 6 := by
  induction L with
  | nil => rfl
  | cons u L ih => unfold cellsR at *; rw [List.flatMap_cons, List.length_append, ih, List.length_cons, Nat.succ_mul]; show 6 + _ = _; omega
theorem cellsR_app (L K : List Ru) : cellsR (L ++ K) = cellsR L ++ cellsR K := by unfold cellsR; simp
theorem cellsR_at : ∀ (L : List Ru) (j k : Nat) (h : j < L.length), k < 6 → (cellsR L)[j * 6 + k]? = (L[j].cells)[k]?
  | [], _, _, h, _ => absurd h (Nat.not_lt_zero _)
  | u :: L, 0, k, _, hk => by
    have e : cellsR (u :: L) = u.cells.toList ++ cellsR L := by unfold cellsR; simp
    rw [e, Nat.zero_mul, Nat.zero_add, List.getElem?_append_left (by show k < 6; exact hk)]
    simp
  | u :: L, j + 1, k, h, hk => by
    have e : cellsR (u :: L) = u.cells.toList ++ cellsR L := by unfold cellsR; simp
    have h6 : u.cells.toList.length = 6 := rfl
    rw [e, List.getElem?_append_right (by rw [h6]; omega), h6]
    have : (j + 1) * 6 + k - 6 = j * 6 + k := by omega
    rw [this, cellsR_at L j k (by simpa using h) hk]
    simp
/-- A slice value that reads as rules, wherever it lies. -/
def UG (w : World) (A : Option Addr) (L : List Ru) : Prop :=
  0 < L.length → ∃ g o, A = some ⟨g, o, none⟩ ∧ g < w.heap.size ∧ ∀ j, (h : j < L.length) → ∀ k, k < 6 → w.cell? ⟨g, o + j * 6 + k, none⟩ = (L[j].cells)[k]?
theorem UG.below {w w' : World} {A : Option Addr} {L : List Ru} (h : UG w A L) (hb : Below w.heap.size w w') : UG w' A L := fun hp => by
  obtain ⟨g, o, hA, hg, hc⟩ := h hp
  exact ⟨g, o, hA, Nat.lt_of_lt_of_le hg hb.size, fun j hj k hk => (hb.cell (p := ⟨g, o + j * 6 + k, none⟩) hg).trans (hc j hj k hk)⟩
theorem ug_own {w : World} {B : Nat} {v : Value} {L : List Ru} {t : TypeId} (h : w.ownsRow B t 6 v L.length (cellsR L)) : ∃ A ca, v = .slice A L.length ca ∧ UG w A L := by
  have h0 := h
  rcases h.2 with ⟨rfl, hn⟩ | ⟨g, cap, cur, rfl, hb, hg, _⟩
  · exact ⟨none, 0, by rw [hn], fun hp => by omega⟩
  · refine ⟨_, cap, rfl, fun hp => ⟨g, 0, rfl, (Array.getElem?_eq_some_iff.1 hg).1, fun j hj k hk => ?_⟩⟩
    have hx := cellsR_at L j k hj hk
    have hs : k < L[j].cells.size := by show k < 6; exact hk
    rw [Array.getElem?_eq_getElem hs] at hx ⊢
    have := h0.cells (g := g) rfl _ _ hx
    have e : ((⟨g, 0, none⟩ : Addr).add (j * 6 + k)) = ⟨g, j * 6 + k, none⟩ := by unfold Addr.add; split <;> simp_all
    rw [e] at this
    rw [Nat.zero_add]
    exact this
end Go.Proofs.YtcmdiomjhideiaaGreatDoor.TblV
/- What a held region keeps: a world above another one, and one box. -/
namespace Go.Proofs.YtcmdiomjhideiaaGreatDoor.RolK
set_option linter.unusedVariables false
set_option linter.unusedSimpArgs false
open Go.RowKit
theorem keepB {W w1 w2 : World} {n : Nat} {f : Nat → Option Value} (h : RowKit.Below W.heap.size W w1 ∧ (∀ o, w1.cell? ⟨n, o, none⟩ = f o)) (hn : n < W.heap.size) (hb : RowKit.Below w1.heap.size w1 w2) : RowKit.Below W.heap.size W w2 ∧ (∀ o, w2.cell? ⟨n, o, none⟩ = f o) := by
  have hs := h.1.size
  exact ⟨h.1.trans (hb.mono hs), fun o => (hb.cell (p := ⟨n, o, none⟩) (by show n < _; omega)).trans (h.2 o)⟩
end Go.Proofs.YtcmdiomjhideiaaGreatDoor.RolK
/- Tables of principals and of roles' names: a table object, Prins, Links, Roles, Role, by contract. -/
namespace Go.Proofs.YtcmdiomjhideiaaGreatDoor.TblA
set_option linter.unusedVariables false
set_option linter.unusedSimpArgs false
open Go.RowKit Go.Sort Go.Lib Go.Proofs Go.Proofs.YtcmdiomjhideiaaGreatDoor.Plain Go.Proofs.YtcmdiomjhideiaaGreatDoor.SynP Go.Proofs.YtcmdiomjhideiaaGreatDoor.TabP Go.Proofs.YtcmdiomjhideiaaGreatDoor.Tab1 Go.Proofs.YtcmdiomjhideiaaGreatDoor.Tab2 Go.Proofs.YtcmdiomjhideiaaGreatDoor.RolK
set_option linter.unusedVariables false
set_option linter.unusedSimpArgs false
/-- The table t of the principals P (by the table a) and of the names L (by the table b). -/
structure TblK (w : World) (t a b : Nat) (A1 : Option Addr) (c1 : Nat) (A2 : Option Addr) (c2 : Nat) (P L : List Str) : Prop where
  t0 : w.cell? ⟨t, 0, none⟩ = some (.pointer (some ⟨a, 0, none⟩))
  t1 : w.cell? ⟨t, 1, none⟩ = some (.pointer (some ⟨b, 0, none⟩))
  a0 : w.cell? ⟨a, 0, none⟩ = some (.slice A1 P.length c1)
  b0 : w.cell? ⟨b, 0, none⟩ = some (.slice A2 L.length c2)
  ra : SRow w A1 P
  rb : SRow w A2 L
  lt : t < w.heap.size ∧ a < w.heap.size ∧ b < w.heap.size
  sp : P.Pairwise (· < ·)
  sl : L.Pairwise (· < ·)
  pl : P.length ≤ 100000
  ll : L.length ≤ 100000
theorem TblK.keep {w w' : World} {t a b : Nat} {A1 : Option Addr} {c1 : Nat} {A2 : Option Addr} {c2 : Nat} {P L : List Str} (h : TblK w t a b A1 c1 A2 c2 P L) (hb : RowKit.Below w.heap.size w w') : TblK w' t a b A1 c1 A2 c2 P L :=
  ⟨(hb.cell (p := ⟨t, 0, none⟩) h.lt.1).trans h.t0, (hb.cell (p := ⟨t, 1, none⟩) h.lt.1).trans h.t1, (hb.cell (p := ⟨a, 0, none⟩) h.lt.2.1).trans h.a0, (hb.cell (p := ⟨b, 0, none⟩) h.lt.2.2).trans h.b0, h.ra.keep hb, h.rb.keep hb, ⟨Nat.lt_of_lt_of_le h.lt.1 hb.size, Nat.lt_of_lt_of_le h.lt.2.1 hb.size, Nat.lt_of_lt_of_le h.lt.2.2 hb.size⟩, h.sp, h.sl, h.pl, h.ll⟩
section
variable {w : World} {t a b : Nat} {A1 : Option Addr} {c1 : Nat} {A2 : Option Addr} {c2 : Nat} {P L : List Str}
set_option maxRecDepth 100000
theorem prins (h : TblK w t a b A1 c1 A2 c2 P L) : Calls Tryz.prog 26 #[.pointer (some ⟨t, 0, none⟩)] w fun e w' => e = .returned (.pointer (some ⟨a, 0, none⟩)) ∧ w = w' := by
  have h0 := h.t0
  clear h
  go_enter Tryz.func26, Tryz.ntmps26
  go_wp2
  go_ret
  exact ⟨rfl, rfl⟩
theorem links (h : TblK w t a b A1 c1 A2 c2 P L) : Calls Tryz.prog 77 #[.pointer (some ⟨t, 0, none⟩)] w fun e w' => e = .returned (.pointer (some ⟨b, 0, none⟩)) ∧ w = w' := by
  have h0 := h.t1
  clear h
  go_enter Tryz.func77, Tryz.ntmps77
  go_wp2
  go_ret
  exact ⟨rfl, rfl⟩
theorem roles (h : TblK w t a b A1 c1 A2 c2 P L) : Calls Tryz.prog 18 #[.pointer (some ⟨t, 0, none⟩)] w fun e w' => e = .returned (.int .i64 ((P.length * L.length : Nat) : Int)) ∧ w = w' := by
  have H1 := Lib.hid (prins h)
  have H2 := Lib.hid (links h)
  have H3 := Lib.hid (Tab1.len w a A1 P.length c1 h.a0)
  have H4 := Lib.hid (Tab1.len w b A2 L.length c2 h.b0)
  have hm : P.length * L.length ≤ 10000000000 := Nat.mul_le_mul h.pl h.ll
  have hw : wrap64 ((P.length : Int) * (L.length : Int)) = ((P.length * L.length : Nat) : Int) := by
    rw [← Int.natCast_mul]; unfold wrap64; omega
  have HW := Lib.hid hw
  clear h hw
  generalize P.length * L.length = m at *
  generalize P.length = n1 at *
  generalize L.length = n2 at *
  go_enter Tryz.func18, Tryz.ntmps18
  go_wp2_with (first | ((with_reducible refine H1.out.mono ?_); rintro e w' ⟨rfl, rfl⟩) | ((with_reducible refine H2.out.mono ?_); rintro e w' ⟨rfl, rfl⟩) | ((with_reducible refine H3.out.mono ?_); rintro e w' ⟨rfl, rfl⟩) | ((with_reducible refine H4.out.mono ?_); rintro e w' ⟨rfl, rfl⟩))
  go_ret
  exact ⟨ret_int HW.out, rfl⟩
theorem findI_bd (T : List Str) (s : Str) : -1 ≤ findI T s ∧ findI T s < T.length := by
  unfold findI
  split
  · rename_i h
    have := List.idxOf_lt_length_of_mem h
    omega
  · omega
def roleI (P L : List Str) (r : Rl) : Int := if findI P r.owner.toList < 0 ∨ findI L r.name.toList < 0 then -1 else findI P r.owner.toList * L.length + findI L r.name.toList
theorem roleI_bd (P L : List Str) (r : Rl) : -1 ≤ roleI P L r ∧ roleI P L r < P.length * L.length ∨ roleI P L r = -1 := by
  unfold roleI
  split
  · exact Or.inr rfl
  · rename_i h
    have h1 := findI_bd P r.owner.toList
    have h2 := findI_bd L r.name.toList
    generalize findI P r.owner.toList = x at *
    generalize findI L r.name.toList = y at *
    have h3 : (x + 1) * (L.length : Int) ≤ P.length * L.length := Int.mul_le_mul_of_nonneg_right (by omega) (by omega)
    have h4 : (x + 1) * (L.length : Int) = x * L.length + L.length := by rw [Int.add_mul, Int.one_mul]
    have h5 : 0 ≤ x * (L.length : Int) := Int.mul_nonneg (by omega) (by omega)
    left; omega
set_option maxHeartbeats 1000000 in
theorem role (h : TblK w t a b A1 c1 A2 c2 P L) (r : Rl) : Calls Tryz.prog 85 #[.pointer (some ⟨t, 0, none⟩), r.val] w fun e w' => e = .returned (.int .i64 (roleI P L r)) ∧ RowKit.Below w.heap.size w w' := by
  have hp := h.pl
  have hl := h.ll
  have b1 := findI_bd P r.owner.toList
  have b2 := findI_bd L r.name.toList
  have H1 : Hid (∀ w', RowKit.Below w.heap.size w w' → Calls Tryz.prog 26 #[.pointer (some ⟨t, 0, none⟩)] w' fun e w'' => e = .returned (.pointer (some ⟨a, 0, none⟩)) ∧ w' = w'') := Lib.hid (fun w' hb => prins (h.keep hb))
  have H2 : Hid (∀ w', RowKit.Below w.heap.size w w' → Calls Tryz.prog 77 #[.pointer (some ⟨t, 0, none⟩)] w' fun e w'' => e = .returned (.pointer (some ⟨b, 0, none⟩)) ∧ w' = w'') := Lib.hid (fun w' hb => links (h.keep hb))
  have H3 : Hid (∀ w', RowKit.Below w.heap.size w w' → Calls Tryz.prog 137 #[.pointer (some ⟨a, 0, none⟩), .string r.owner] w' fun e w'' => e = .returned (.int .i64 (findI P r.owner.toList)) ∧ RowKit.Below w'.heap.size w' w'') := Lib.hid (fun w' hb => Tab2.find a P A1 c1 r.owner w' (by omega) h.sp (h.keep hb).ra (h.keep hb).lt.2.1 (h.keep hb).a0)
  have H4 : Hid (∀ w', RowKit.Below w.heap.size w w' → Calls Tryz.prog 137 #[.pointer (some ⟨b, 0, none⟩), .string r.name] w' fun e w'' => e = .returned (.int .i64 (findI L r.name.toList)) ∧ RowKit.Below w'.heap.size w' w'') := Lib.hid (fun w' hb => Tab2.find b L A2 c2 r.name w' (by omega) h.sl (h.keep hb).rb (h.keep hb).lt.2.2 (h.keep hb).b0)
  have H5 : Hid (∀ w', RowKit.Below w.heap.size w w' → Calls Tryz.prog 76 #[.pointer (some ⟨b, 0, none⟩)] w' fun e w'' => e = .returned (.int .i64 L.length) ∧ w' = w'') := Lib.hid (fun w' hb => Tab1.len w' b A2 L.length c2 (h.keep hb).b0)
  obtain ⟨ro, rn⟩ := r
  have hR : ∃ v, roleI P L ⟨ro, rn⟩ = v := ⟨_, rfl⟩
  obtain ⟨v, hv⟩ := hR
  rw [hv]
  unfold roleI at hv
  unfold Rl.val
  simp only at *
  generalize findI P ro.toList = x at *
  generalize findI L rn.toList = y at *
  generalize P.length = n1 at *
  generalize L.length = n2 at *
  have HV := Lib.hid hv
  clear h hv
  have hX := (Below.refl w.heap.size w).alloc (Nat.le_refl _) (.cells #[.string ro, .string rn] 28)
  generalize hW6 : w.alloc (.cells #[.string ro, .string rn] 28) = w6 at hX
  have hz6 : w6.heap.size = w.heap.size + 1 := by rw [← hW6]; simp
  have u1 : ∀ o, w6.drew.cell? ⟨w.heap.size, o, none⟩ = (#[.string ro, .string rn] : Array Value)[o]? := fun o => by
    show w6.cell? _ = _
    rw [← hW6]; exact Lib.cell_of_heap (heap_alloc_new w _) o
  have hz7 : w.heap.size < w6.heap.size := by omega
  have hst : RowKit.Below w6.heap.size w6 w6.drew ∧ (∀ o, w6.drew.cell? ⟨w.heap.size, o, none⟩ = (#[.string ro, .string rn] : Array Value)[o]?) := ⟨(Below.refl _ _).drew, u1⟩
  have HX := Lib.hid (fun w' (hb : RowKit.Below w6.heap.size w6 w') => hX.trans (hb.mono (by omega)))
  clear u1 hX
  go_enter Tryz.func85, Tryz.ntmps85
  go_wp2_with fail
  try rw [hW6]
  go_region_held3 (fun w' => RowKit.Below w6.heap.size w6 w' ∧ (∀ o, w'.cell? ⟨w.heap.size, o, none⟩ = (#[.string ro, .string rn] : Array Value)[o]?))
    (first | with_reducible exact hst | with_reducible assumption | exact keepB (by with_reducible assumption) hz7 (by with_reducible assumption))
    (first | (go_at_call 26; refine (H1.out _ (HX.out _ (by apply And.left; with_reducible assumption))).mono ?_; rintro e w' ⟨rfl, rfl⟩) | (go_at_call 77; refine (H2.out _ (HX.out _ (by apply And.left; with_reducible assumption))).mono ?_; rintro e w' ⟨rfl, rfl⟩) | ((with_reducible refine (H3.out _ (HX.out _ (by apply And.left; with_reducible assumption))).mono ?_); rintro e w' ⟨rfl, hgb⟩) | ((with_reducible refine (H4.out _ (HX.out _ (by apply And.left; with_reducible assumption))).mono ?_); rintro e w' ⟨rfl, hgb⟩))
  rename_i hHeld
  have HH := Lib.hid hHeld
  have hBel := Lib.hid (HX.out _ hHeld.1)
  clear hHeld hst
  by_cases hx : x < 0
  · have hv := HV.out
    rw [if_pos (Or.inl hx)] at hv
    subst hv
    go_wp2_with fail
    go_ret
    exact ⟨rfl, hBel.out⟩
  · by_cases hy : y < 0
    · have hv := HV.out
      rw [if_pos (Or.inr hy)] at hv
      subst hv
      go_wp2_with fail
      go_ret
      exact ⟨rfl, hBel.out⟩
    · have hv := HV.out
      rw [if_neg (by omega)] at hv
      have H5' := Lib.hid (H5.out _ hBel.out)
      obtain ⟨x', rfl⟩ : ∃ q : Nat, x = q := ⟨x.toNat, by omega⟩
      obtain ⟨y', rfl⟩ : ∃ q : Nat, y = q := ⟨y.toNat, by omega⟩
      have hq : x' * n2 ≤ 10000000000 := Nat.mul_le_mul (show x' ≤ 100000 by omega) hl
      have hw : wrap64 (wrap64 ((x' : Int) * (n2 : Int)) + (y' : Int)) = v := by
        rw [← hv, ← Int.natCast_mul]; unfold wrap64; omega
      have HW := Lib.hid hw
      clear hv hw hq
      go_wp2_with (first | ((with_reducible refine (H2.out _ hBel.out).mono ?_); rintro e w' ⟨rfl, rfl⟩) | ((with_reducible refine H5'.out.mono ?_); rintro e w' ⟨rfl, rfl⟩))
      go_ret
      exact ⟨ret_int HW.out, hBel.out⟩
end
end Go.Proofs.YtcmdiomjhideiaaGreatDoor.TblA
/- Whether numbers are within a bound (below), by contract. -/
namespace Go.Proofs.YtcmdiomjhideiaaGreatDoor.TblB
set_option linter.unusedVariables false
set_option linter.unusedSimpArgs false
open Go.RowKit Go.Lib Go.Proofs Go.Proofs.YtcmdiomjhideiaaGreatDoor.Plain
set_option linter.unusedVariables false
set_option linter.unusedSimpArgs false
/-- A slice value that reads as numbers, wherever it lies. -/
def IG (w : World) (A : Option Addr) (zs : List Int) : Prop :=
  0 < zs.length → ∃ g o, A = some ⟨g, o, none⟩ ∧ g < w.heap.size ∧ ∀ j, (h : j < zs.length) → w.cell? ⟨g, o + j, none⟩ = some (.int .i64 zs[j])
theorem IG.below {w w' : World} {A : Option Addr} {zs : List Int} (h : IG w A zs) (hb : RowKit.Below w.heap.size w w') : IG w' A zs := fun hp => by
  obtain ⟨g, o, hA, hg, hc⟩ := h hp
  exact ⟨g, o, hA, Nat.lt_of_lt_of_le hg hb.size, fun j hj => (hb.cell (p := ⟨g, o + j, none⟩) hg).trans (hc j hj)⟩
theorem IG.lit (X : World) (g : Nat) (zs : List Int) (t : TypeId) (hg : X.heap[g]? = some (.cells (zs.map fun z => Value.int .i64 z).toArray t (0, 0))) : IG X (some ⟨g, 0, none⟩) zs := fun _ => by
  refine ⟨g, 0, rfl, (Array.getElem?_eq_some_iff.1 hg).1, fun j hj => ?_⟩
  rw [Lib.cell_of_heap hg, Nat.zero_add]
  simp [hj]
def inB (n z : Int) : Bool := decide (0 ≤ z ∧ z < n)
def allB (n : Int) (zs : List Int) : Bool := zs.all (inB n)
section
set_option maxRecDepth 100000
theorem fnB (z n : Int) (b : Nat) (w : World) (hb : w.cell? ⟨b, 0, none⟩ = some (.int .i64 n)) :
    Calls Tryz.prog 133 #[.int .i64 z, .pointer (some ⟨b, 0, none⟩)] w fun e w' => e = .returned (.bool (!inB n z)) ∧ w = w' := by
  by_cases h0 : z < 0
  · have hf : inB n z = false := decide_eq_false (by omega)
    rw [hf]
    clear hf
    go_enter Tryz.func133, Tryz.ntmps133
    go_wp2
    go_ret
    exact ⟨rfl, rfl⟩
  · by_cases h1 : n ≤ z
    · have hf : inB n z = false := decide_eq_false (by omega)
      rw [hf]
      clear hf
      go_enter Tryz.func133, Tryz.ntmps133
      go_wp2
      go_ret
      exact ⟨rfl, rfl⟩
    · have hf : inB n z = true := decide_eq_true (by omega)
      rw [hf]
      clear hf
      go_enter Tryz.func133, Tryz.ntmps133
      go_wp2
      go_ret
      exact ⟨rfl, rfl⟩
theorem all_no {n : Int} {zs : List Int} {k : Nat} (h : k < zs.length) (hk : inB n zs[k] = false) : allB n zs = false := by
  unfold allB
  rw [List.all_eq_false]
  exact ⟨zs[k], List.getElem_mem _, by simp [hk]⟩
theorem all_yes {n : Int} {zs : List Int} (h : ∀ k, (hk : k < zs.length) → inB n zs[k] = true) : allB n zs = true := by
  unfold allB
  rw [List.all_eq_true]
  intro x hx
  obtain ⟨k, hk, rfl⟩ := List.getElem_of_mem hx
  exact h k hk
theorem idxB (A : Option Addr) (ca : Nat) (zs : List Int) (n : Int) (b : Nat) (w : World) (hT : zs.length ≤ 10000) (hA : IG w A zs) (hb : w.cell? ⟨b, 0, none⟩ = some (.int .i64 n)) :
    Calls Tryz.prog 178 #[.slice A zs.length ca, .func (.func 133) #[] #[.pointer (some ⟨b, 0, none⟩)]] w fun e w' => ∃ r : Int, e = .returned (.int .i64 r) ∧ decide (0 ≤ r) = !allB n zs ∧ w = w' := by
  have HA := Lib.hid hA
  have HB := Lib.hid hb
  clear hA hb
  go_enter Tryz.func178, Tryz.ntmps178
  go_wp2_with fail
  go_loop [8] (fun i => ∃ k : Nat, k ≤ zs.length ∧ i = .int .i64 k ∧ Hid (∀ j, j < k → (h : j < zs.length) → inB n zs[j] = true)) (fun i => zs.length - (intOf i).toNat)
  case atStart => exact ⟨0, by omega, rfl, Lib.hid (fun j hj => by omega)⟩
  case round =>
    obtain ⟨k, hk, rfl, hall⟩ := hrel
    by_cases hlt : k < zs.length
    · obtain ⟨g, o, rfl, hg, hc⟩ := HA.out (by omega)
      have a0 := hc k hlt
      have H := Lib.hid (fnB zs[k] n b w HB.out)
      have p1 : (0 : Int) ≤ k := by omega
      have p2 : (k : Int) < zs.length := by omega
      clear hc
      cases hp : inB n zs[k]
      · rw [hp] at H
        have hfin := Lib.hid (show decide ((0 : Int) ≤ k) = !allB n zs by rw [decide_eq_true p1, all_no hlt hp]; rfl)
        clear hp hall
        go_wp2_with fail
        refine H.out.mono ?_
        rintro e w1 ⟨rfl, rfl⟩
        go_wp2_with fail
        go_ret
        exact ⟨k, rfl, hfin.out, rfl⟩
      · rw [hp] at H
        have hnext : Hid (∀ j, j < k + 1 → (h : j < zs.length) → inB n zs[j] = true) := Lib.hid fun j hj h => by
          by_cases e : j = k
          · subst e; exact hp
          · exact hall.out j (by omega) h
        clear hp hall
        go_wp2_with fail
        refine H.out.mono ?_
        rintro e w1 ⟨rfl, rfl⟩
        go_wp2_with fail
        go_round
        case rel => exact ⟨k + 1, by omega, by go_num, hnext⟩
        case measure => simp [intOf]; omega
    · have hfin := Lib.hid (show decide ((0 : Int) ≤ -1) = !allB n zs by rw [all_yes fun j hj => hall.out j (by omega) hj]; rfl)
      clear hall
      go_wp2_with fail
      go_ret
      exact ⟨-1, rfl, hfin.out, rfl⟩
theorem conB (A : Option Addr) (ca : Nat) (zs : List Int) (n : Int) (b : Nat) (w : World) (hT : zs.length ≤ 10000) (hA : IG w A zs) (hb : w.cell? ⟨b, 0, none⟩ = some (.int .i64 n)) :
    Calls Tryz.prog 132 #[.slice A zs.length ca, .func (.func 133) #[] #[.pointer (some ⟨b, 0, none⟩)]] w fun e w' => e = .returned (.bool (!allB n zs)) ∧ w = w' := by
  have H := Lib.hid (idxB A ca zs n b w hT hA hb)
  generalize (!allB n zs) = r at *
  clear hA hb
  go_enter Tryz.func132, Tryz.ntmps132
  go_wp2_with fail
  refine H.out.mono ?_
  rintro e w1 ⟨i, rfl, hi, rfl⟩
  have HI := Lib.hid hi
  clear hi
  go_wp2_with fail
  go_ret
  exact ⟨ret_bool HI.out, rfl⟩
theorem below (A : Option Addr) (ca : Nat) (zs : List Int) (n : Int) (w : World) (hT : zs.length ≤ 10000) (hA : IG w A zs) :
    Calls Tryz.prog 81 #[.int .i64 n, .slice A zs.length ca] w fun e w' => e = .returned (.bool (allB n zs)) ∧ RowKit.Below w.heap.size w w' := by
  have hmf : ∀ (fn : Fn) (first cap : Array Value) (w : World), (Instr.makeFunc fn first cap).run Tryz.prog w = .ok (.func fn first cap) w := fun _ _ _ _ => rfl
  have H := Lib.hid (conB A ca zs n w.heap.size (w.alloc (.cells #[.int .i64 n] 3)) hT (hA.below ((Below.refl _ _).alloc (Nat.le_refl _) _)) (by rw [Lib.cell_of_heap (heap_alloc_new w _)]; rfl))
  generalize allB n zs = r at *
  clear hA
  go_enter Tryz.func81, Tryz.ntmps81
  go_wp2_with fail
  refine H.out.mono ?_
  rintro e w1 ⟨rfl, rfl⟩
  go_wp2_with fail
  go_ret
  exact ⟨by simp, (Below.refl _ _).alloc (Nat.le_refl _) _⟩
end
end Go.Proofs.YtcmdiomjhideiaaGreatDoor.TblB
/- Tables: whether numbers are within a bound (below), and RoleAt, by contract. -/
namespace Go.Proofs.YtcmdiomjhideiaaGreatDoor.TblB
set_option linter.unusedVariables false
set_option linter.unusedSimpArgs false
open Go.RowKit Go.Sort Go.Lib Go.Proofs Go.Proofs.YtcmdiomjhideiaaGreatDoor.Plain Go.Proofs.YtcmdiomjhideiaaGreatDoor.SynP Go.Proofs.YtcmdiomjhideiaaGreatDoor.TabP Go.Proofs.YtcmdiomjhideiaaGreatDoor.Tab1 Go.Proofs.YtcmdiomjhideiaaGreatDoor.Tab2 Go.Proofs.YtcmdiomjhideiaaGreatDoor.RolK Go.Proofs.YtcmdiomjhideiaaGreatDoor.TblA
set_option linter.unusedVariables false
set_option linter.unusedSimpArgs false
section
variable {w : World} {t a b : Nat} {A1 : Option Addr} {c1 : Nat} {A2 : Option Addr} {c2 : Nat} {P L : List Str}
set_option maxRecDepth 100000
theorem one2 (s1 s2 : ByteArray) : (#[.string s1, .string s2] : Array Value).all (·.oneCell') = true :=
  all_oneCell_toArray (cs := [.string s1, .string s2]) (fun v hv => by simp at hv; rcases hv with rfl | rfl <;> rfl)
theorem still_tail {P : Program} {id : Nat} {Q : Exit → Act → World → Prop} {a : Act} {w : World} {l : List Oper} (n : Nat) (hm : P.follows .mixedOrders = true) (hB : Region.lexTailB .any l.toArray n = true)
    (h : wpStill P l.toArray w.drew (fun a' => wpList P l.toArray Q (l.drop n) a' w.drew) (l.take n) a) : (Code.region id l.toArray true).wp P Q a w := wp_region_still_tail n hm hB h
theorem infoRole2 : (Tryz.prog.info? 28).map (·.size) = some 2 := by kernel_rfl
theorem roleAt_out (h : TblK w t a b A1 c1 A2 c2 P L) (i : Int) (hi : i < 0 ∨ ((P.length * L.length : Nat) : Int) ≤ i) : Calls Tryz.prog 21 #[.pointer (some ⟨t, 0, none⟩), .int .i64 i] w fun e w' => e = .returned zeroR.val ∧ RowKit.Below w.heap.size w w' := by
  have H1 := Lib.hid (fun w' hb => roles (w := w') (h.keep hb))
  have hall : allB ((P.length * L.length : Nat) : Int) [i] = false := by unfold allB inB; simp; omega
  have HB : Hid (∀ (w' : World) (g : Nat), w'.heap[g]? = some (.cells #[.int .i64 i] 3 (0, 0)) → Calls Tryz.prog 81 #[.int .i64 ((P.length * L.length : Nat) : Int), .slice (some ⟨g, 0, none⟩) 1 1] w' fun e w'' => e = .returned (.bool false) ∧ RowKit.Below w'.heap.size w' w'') := Lib.hid (fun w' g hg => by
    have := below (some ⟨g, 0, none⟩) 1 [i] ((P.length * L.length : Nat) : Int) w' (by simp) (IG.lit w' g [i] 3 hg)
    rw [hall] at this
    exact this)
  have hm : P.length * L.length ≤ 10000000000 := Nat.mul_le_mul h.pl h.ll
  clear h hi hall
  generalize P.length * L.length = m at *
  unfold zeroR noText Rl.val
  go_enter Tryz.func21, Tryz.ntmps21
  go_wp2_with fail
  refine (H1.out _ ((Below.refl _ _).alloc (Nat.le_refl _) _)).mono ?_
  rintro e w1 ⟨rfl, rfl⟩
  go_wp2_with fail
  refine (HB.out _ (w.heap.size + 1) (heap_alloc2_new w _ _)).mono ?_
  rintro e w1 ⟨rfl, hb⟩
  have hh : w1.heap[w.heap.size]? = some (.cells #[.string ⟨#[]⟩, .string ⟨#[]⟩] 28 (0, 0)) := (hb.block w.heap.size (by simp; omega)).trans (heap_alloc2_old w _ _)
  have hbel : RowKit.Below w.heap.size w w1 := (((Below.refl w.heap.size w).alloc (Nat.le_refl _) _).alloc (by simp) _).trans (hb.mono (by simp; omega))
  have HH := Lib.hid hh
  have HBel := Lib.hid hbel
  clear hh hbel hb
  go_wp2_with (refine wpList_store_row rfl 28 _ _ rfl w.heap.size #[.string ⟨#[]⟩, .string ⟨#[]⟩] rfl rfl 28 _ HH.out infoRole2 rfl (one2 _ _) ?_)
  exact bodyPost_ret (v := .agg #[.string ⟨#[]⟩, .string ⟨#[]⟩]) (results_cell_row (cs := #[.string ⟨#[]⟩, .string ⟨#[]⟩]) (fn := Tryz.f21) rfl _ _ w.heap.size 28 (0, 0) _ rfl (setRow_heap _ _ _ _ _ _ HH.out) Tryz.underlying28 rfl infoRole2) rfl ⟨rfl, below_setRow HBel.out (Nat.le_refl _) _⟩
theorem roleAt_in (h : TblK w t a b A1 c1 A2 c2 P L) (x y : Nat) (hx : x < P.length) (hy : y < L.length) : Calls Tryz.prog 21 #[.pointer (some ⟨t, 0, none⟩), .int .i64 ((x * L.length + y : Nat) : Int)] w fun e w' => e = .returned (Rl.val ⟨⟨P[x].toArray⟩, ⟨L[y].toArray⟩⟩) ∧ RowKit.Below w.heap.size w w' := by
  have hm : P.length * L.length ≤ 10000000000 := Nat.mul_le_mul h.pl h.ll
  have hi : x * L.length + y < P.length * L.length := by
    have : (x + 1) * L.length ≤ P.length * L.length := Nat.mul_le_mul_right _ hx
    rw [Nat.succ_mul] at this
    omega
  have hdiv : (x * L.length + y) / L.length = x := by
    rw [Nat.mul_comm, Nat.mul_add_div (by omega), Nat.div_eq_of_lt hy, Nat.add_zero]
  have hmod : (x * L.length + y) % L.length = y := by
    rw [Nat.mul_comm, Nat.mul_add_mod, Nat.mod_eq_of_lt hy]
  obtain ⟨i, hie⟩ : ∃ i, x * L.length + y = i := ⟨_, rfl⟩
  rw [hie] at hi hdiv hmod ⊢
  clear hie
  have H1 := Lib.hid (fun w' hb => roles (w := w') (h.keep hb))
  have HP := Lib.hid (fun w' hb => prins (w := w') (h.keep hb))
  have HK := Lib.hid (fun w' hb => links (w := w') (h.keep hb))
  have H5 : Hid (∀ w', RowKit.Below w.heap.size w w' → Calls Tryz.prog 76 #[.pointer (some ⟨b, 0, none⟩)] w' fun e w'' => e = .returned (.int .i64 L.length) ∧ w' = w'') := Lib.hid (fun w' hb => Tab1.len w' b A2 L.length c2 (h.keep hb).b0)
  have H6 := Lib.hid (fun w' hb => Tab7.at_in a A1 P c1 x w' (h.keep hb).a0 (by have := h.pl; omega) (h.keep hb).ra hx)
  have H7 := Lib.hid (fun w' hb => Tab7.at_in b A2 L c2 y w' (h.keep hb).b0 (by have := h.ll; omega) (h.keep hb).rb hy)
  have hall : allB ((P.length * L.length : Nat) : Int) [(i : Int)] = true := by unfold allB inB; simp; omega
  have HB : Hid (∀ (w' : World) (g : Nat), w'.heap[g]? = some (.cells #[.int .i64 i] 3 (0, 0)) → Calls Tryz.prog 81 #[.int .i64 ((P.length * L.length : Nat) : Int), .slice (some ⟨g, 0, none⟩) 1 1] w' fun e w'' => e = .returned (.bool true) ∧ RowKit.Below w'.heap.size w' w'') := Lib.hid (fun w' g hg => by
    have := below (some ⟨g, 0, none⟩) 1 [(i : Int)] ((P.length * L.length : Nat) : Int) w' (by simp) (IG.lit w' g [(i : Int)] 3 hg)
    rw [hall] at this
    exact this)
  have hpl := h.pl
  have hll := h.ll
  have n2 : 0 < L.length := by omega
  generalize (⟨P[x].toArray⟩ : ByteArray) = s1 at *
  generalize (⟨L[y].toArray⟩ : ByteArray) = s2 at *
  clear h hall
  generalize P.length * L.length = m at *
  generalize L.length = n at *
  unfold Rl.val
  simp only
  have q1 : ((i : Int) / (n : Int)) = (x : Int) := by rw [← Int.natCast_ediv, hdiv]
  have q2 : ((i : Int) % (n : Int)) = (y : Int) := by rw [← Int.natCast_emod, hmod]
  clear hdiv hmod
  go_enter Tryz.func21, Tryz.ntmps21
  go_wp2_with fail
  refine (H1.out _ ((Below.refl _ _).alloc (Nat.le_refl _) _)).mono ?_
  rintro e w1 ⟨rfl, rfl⟩
  go_wp2_with fail
  refine (HB.out _ (w.heap.size + 1) (heap_alloc2_new w _ _)).mono ?_
  rintro e w1 ⟨rfl, hb⟩
  have hh : w1.heap[w.heap.size]? = some (.cells #[.string ⟨#[]⟩, .string ⟨#[]⟩] 28 (0, 0)) := (hb.block w.heap.size (by simp; omega)).trans (heap_alloc2_old w _ _)
  have hbel : RowKit.Below w.heap.size w w1 := (((Below.refl w.heap.size w).alloc (Nat.le_refl _) _).alloc (by simp) _).trans (hb.mono (by simp; omega))
  have HH := Lib.hid hh
  have HBel := Lib.hid hbel
  clear hh hbel hb
  go_wp2_with (first | ((with_reducible refine (HK.out _ HBel.out).mono ?_); rintro e w' ⟨rfl, rfl⟩) | ((with_reducible refine (H5.out _ HBel.out).mono ?_); rintro e w' ⟨rfl, rfl⟩))
  have q3 : IntKind.i64.wrap (Int.tdiv (i : Int) (n : Int)) = (x : Int) := by
    rw [Int.tdiv_eq_ediv_of_nonneg (by omega), q1, IntKind.wrap_i64]; omega
  have q4 : IntKind.i64.wrap (Int.tmod (i : Int) (n : Int)) = (y : Int) := by
    rw [Int.tmod_eq_emod_of_nonneg (by omega), q2, IntKind.wrap_i64]; omega
  have q5 : ¬ n = 0 := by omega
  have wx : IntKind.i64.wrap (x : Int) = x := by rw [IntKind.wrap_i64]; omega
  have wy : IntKind.i64.wrap (y : Int) = y := by rw [IntKind.wrap_i64]; omega
  have q6 : Int.tmod (i : Int) (n : Int) = (y : Int) := by
    rw [Int.tmod_eq_emod_of_nonneg (by omega), q2]
  refine still_tail 13 (by kernel_rfl) (by kernel_rfl) ?_
  simp only [List.take_succ_cons, List.take_zero, List.drop_succ_cons, List.drop_zero]
  repeat still_step
  still_call ((HP.out _ (HBel.out.drew)).mono fun e w' h => ⟨h.1, h.2.symm⟩)
  repeat still_step
  still_call ((H6.out _ (HBel.out.drew)).mono fun e w' h => ⟨h.1, h.2.symm⟩)
  repeat still_step
  still_call ((HK.out _ (HBel.out.drew)).mono fun e w' h => ⟨h.1, h.2.symm⟩)
  repeat still_step
  still_call ((H7.out _ (HBel.out.drew)).mono fun e w' h => ⟨h.1, h.2.symm⟩)
  repeat still_step
  refine wpStill_nil ?_
  go_wp2_with (refine wpList_store_row rfl 28 _ _ rfl w.heap.size #[.string s1, .string s2] rfl rfl 28 #[.string ⟨#[]⟩, .string ⟨#[]⟩] HH.out infoRole2 rfl (one2 _ _) ?_)
  exact bodyPost_ret (v := .agg #[.string s1, .string s2]) (results_cell_row (cs := #[.string s1, .string s2]) (fn := Tryz.f21) rfl _ _ w.heap.size 28 (0, 0) _ rfl (setRow_heap _ _ _ _ _ _ HH.out) Tryz.underlying28 rfl infoRole2) rfl ⟨rfl, below_setRow HBel.out.drew (Nat.le_refl _) _⟩
end
end Go.Proofs.YtcmdiomjhideiaaGreatDoor.TblB
/- Tables: put and say, by contract. -/
namespace Go.Proofs.YtcmdiomjhideiaaGreatDoor.TblC
set_option linter.unusedVariables false
set_option linter.unusedSimpArgs false
open Go.RowKit Go.Sort Go.Lib Go.Proofs Go.Proofs.YtcmdiomjhideiaaGreatDoor.Plain Go.Proofs.YtcmdiomjhideiaaGreatDoor.SynP Go.Proofs.YtcmdiomjhideiaaGreatDoor.TabP Go.Proofs.YtcmdiomjhideiaaGreatDoor.Tab1 Go.Proofs.YtcmdiomjhideiaaGreatDoor.Tab2 Go.Proofs.YtcmdiomjhideiaaGreatDoor.RolK Go.Proofs.YtcmdiomjhideiaaGreatDoor.TblA Go.Proofs.YtcmdiomjhideiaaGreatDoor.TblB
set_option linter.unusedVariables false
set_option linter.unusedSimpArgs false
section
variable {t a b : Nat} {A1 : Option Addr} {c1 : Nat} {A2 : Option Addr} {c2 : Nat} {P L : List Str}
set_option maxRecDepth 100000
theorem putR (w : World) (h : TblK w t a b A1 c1 A2 c2 P L) (x : Rl) (u : Ru) (r o : Nat) (hr : RuAt w r u) (h1 : 1 ≤ o) (h5 : o ≤ 5) :
    Calls Tryz.prog 176 #[.pointer (some ⟨r, o, none⟩), .func (.func 85) #[.pointer (some ⟨t, 0, none⟩)] #[], x.val] w (PutPost (roleI P L x) u o r w) := by
  have HR := Lib.hid (fun w' hb => role (w := w') (h.keep hb) x)
  have HS : Hid (∀ w1, RowKit.Below w.heap.size w w1 → RuAt w1 r u) := Lib.hid (fun w1 hb => hr.below hb)
  obtain ⟨xo, xn⟩ := x
  generalize roleI P L ⟨xo, xn⟩ = v at *
  unfold Rl.val at *
  simp only at *
  clear h hr
  obtain ⟨z, hz⟩ : ∃ z : Value, u.cells[o]? = some z := by
    have : o < u.cells.size := by show o < 6; omega
    exact ⟨_, Array.getElem?_eq_getElem this⟩
  have HZ := Lib.hid hz
  clear hz
  go_enter Tryz.func176, Tryz.ntmps176
  go_wp2_with fail
  refine (HR.out _ ((Below.refl _ _).alloc (Nat.le_refl _) _)).mono ?_
  rintro e w1 ⟨rfl, hb⟩
  have hb1 : RowKit.Below w.heap.size w w1 := ((Below.refl w.heap.size w).alloc (Nat.le_refl _) _).trans (hb.mono (by simp))
  have hru := HS.out w1 hb1
  have hc := (hru.cell o).trans HZ.out
  have hfz := hru.free o
  have hfin : PutPost v u o r w (.returned (.bool (decide (0 ≤ v)))) (w1.setCell ⟨r, o, none⟩ (.int .i64 v)) := ⟨rfl, hru.put o h1 h5 v, below_set hb1⟩
  have HFin := Lib.hid hfin
  clear hb hb1 hru hfin
  go_wp2_with fail
  go_ret
  exact HFin.out
theorem putS (w : World) (tt : Nat) (T : List Str) (A : Option Addr) (c : Nat) (hn : T.length ≤ 1000000) (hs : T.Pairwise (· < ·)) (hT : SRow w A T) (htt : tt < w.heap.size) (h0 : w.cell? ⟨tt, 0, none⟩ = some (.slice A T.length c)) (x : ByteArray) (u : Ru) (r o : Nat) (hr : RuAt w r u) (h1 : 1 ≤ o) (h5 : o ≤ 5) :
    Calls Tryz.prog 215 #[.pointer (some ⟨r, o, none⟩), .func (.func 137) #[.pointer (some ⟨tt, 0, none⟩)] #[], .string x] w (PutPost (findI T x.toList) u o r w) := by
  have HR := Lib.hid (Tab2.find tt T A c x w hn hs hT htt h0)
  have HS : Hid (∀ w1, RowKit.Below w.heap.size w w1 → RuAt w1 r u) := Lib.hid (fun w1 hb => hr.below hb)
  unfold FindPost at HR
  generalize findI T x.toList = v at *
  clear hr hT h0 hs htt
  obtain ⟨z, hz⟩ : ∃ z : Value, u.cells[o]? = some z := by
    have : o < u.cells.size := by show o < 6; omega
    exact ⟨_, Array.getElem?_eq_getElem this⟩
  have HZ := Lib.hid hz
  clear hz
  go_enter Tryz.func215, Tryz.ntmps215
  go_wp2_with fail
  refine HR.out.mono ?_
  rintro e w1 ⟨rfl, hb1⟩
  have hru := HS.out w1 hb1
  have hc := (hru.cell o).trans HZ.out
  have hfz := hru.free o
  have hfin : PutPost v u o r w (.returned (.bool (decide (0 ≤ v)))) (w1.setCell ⟨r, o, none⟩ (.int .i64 v)) := ⟨rfl, hru.put o h1 h5 v, below_set hb1⟩
  have HFin := Lib.hid hfin
  clear hb1 hru hfin
  go_wp2_with fail
  go_ret
  exact HFin.out
end
end Go.Proofs.YtcmdiomjhideiaaGreatDoor.TblC
/- Tables: say, by contract. -/
namespace Go.Proofs.YtcmdiomjhideiaaGreatDoor.TblD
set_option linter.unusedVariables false
set_option linter.unusedSimpArgs false
open Go.RowKit Go.Sort Go.Lib Go.Proofs Go.Proofs.YtcmdiomjhideiaaGreatDoor.Plain Go.Proofs.YtcmdiomjhideiaaGreatDoor.SynP Go.Proofs.YtcmdiomjhideiaaGreatDoor.TabP Go.Proofs.YtcmdiomjhideiaaGreatDoor.Tab1 Go.Proofs.YtcmdiomjhideiaaGreatDoor.Tab2 Go.Proofs.YtcmdiomjhideiaaGreatDoor.RolK Go.Proofs.YtcmdiomjhideiaaGreatDoor.TblA Go.Proofs.YtcmdiomjhideiaaGreatDoor.TblB Go.Proofs.YtcmdiomjhideiaaGreatDoor.TblC
set_option linter.unusedVariables false
set_option linter.unusedSimpArgs false
def SayPost (ok : Bool) (uf : Ru) (r : Nat) (w : World) (e : Ending) (w' : World) : Prop := e = .returned (.bool ok) ∧ (∃ u', RuAt w' r u' ∧ (ok = true → u' = uf)) ∧ w.grownBy w' (some r)
section
variable {t a b : Nat} {A1 : Option Addr} {c1 : Nat} {A2 : Option Addr} {c2 : Nat} {P L : List Str}
set_option maxRecDepth 100000
set_option maxHeartbeats 1000000 in
theorem say1 (w : World) (h : TblK w t a b A1 c1 A2 c2 P L) (ho hn wh ao an bo bn v : ByteArray) (u : Ru) (r : Nat) (hr : RuAt w r u) :
    Calls Tryz.prog 177 #[.pointer (some ⟨t, 0, none⟩), .pointer (some ⟨r, 0, none⟩), .agg #[.int .i64 1, .string ho, .string hn, .string wh, .string ao, .string an, .string bo, .string bn, .string v]] w (SayPost (decide (0 ≤ findI P wh.toList)) (u.set 2 (findI P wh.toList)) r w) := by
  have hmf : ∀ (fn : Fn) (first cap : Array Value) (w : World), (Instr.makeFunc fn first cap).run Tryz.prog w = .ok (.func fn first cap) w := fun _ _ _ _ => rfl
  have HP := Lib.hid (fun w' hb => prins (w := w') (h.keep hb))
  have HPut := Lib.hid (fun w' (hb : RowKit.Below w.heap.size w w') => putS w' a P A1 c1 (by have := h.pl; omega) h.sp (h.keep hb).ra (h.keep hb).lt.2.1 (h.keep hb).a0 wh u r 2 (hr.below hb) (by omega) (by omega))
  have HFin : Hid (∀ w1 w2, RowKit.Below w.heap.size w w1 → RuAt w2 r (u.set 2 (findI P wh.toList)) → w1.grownBy w2 (some r) → SayPost (decide (0 ≤ findI P wh.toList)) (u.set 2 (findI P wh.toList)) r w (.returned (.bool (decide (0 ≤ findI P wh.toList)))) w2) := Lib.hid (fun w1 w2 hb h1 h2 => ⟨rfl, ⟨_, h1, fun _ => rfl⟩, below_grew hb h2⟩)
  unfold PutPost at HPut
  generalize findI P wh.toList = x at *
  clear h hr
  have hB : RowKit.Below w.heap.size w (w.alloc (.cells #[.int .i64 1, .string ho, .string hn, .string wh, .string ao, .string an, .string bo, .string bn, .string v] 55)).drew := ((Below.refl _ _).alloc (Nat.le_refl _) _).drew
  have HB := Lib.hid hB
  clear hB
  go_enter Tryz.func177, Tryz.ntmps177
  go_wp2_with fail
  go_region_with (first | ((with_reducible refine (HP.out _ HB.out).mono ?_); rintro e w' ⟨rfl, rfl⟩) | ((with_reducible refine (HPut.out _ HB.out).mono ?_); rintro e w' ⟨rfl, hru, hg⟩))
  all_goals
    have HF := Lib.hid (HFin.out _ _ HB.out hru hg)
    clear hru hg
    go_wp2_with fail
    go_ret
    exact HF.out
set_option maxHeartbeats 1000000 in
theorem say2 (w : World) (h : TblK w t a b A1 c1 A2 c2 P L) (ho hn wh ao an bo bn v : ByteArray) (u : Ru) (r : Nat) (hr : RuAt w r u) :
    Calls Tryz.prog 177 #[.pointer (some ⟨t, 0, none⟩), .pointer (some ⟨r, 0, none⟩), .agg #[.int .i64 2, .string ho, .string hn, .string wh, .string ao, .string an, .string bo, .string bn, .string v]] w (SayPost (decide (0 ≤ roleI P L ⟨ao, an⟩)) (u.set 3 (roleI P L ⟨ao, an⟩)) r w) := by
  have hmf : ∀ (fn : Fn) (first cap : Array Value) (w : World), (Instr.makeFunc fn first cap).run Tryz.prog w = .ok (.func fn first cap) w := fun _ _ _ _ => rfl
  have HPut := Lib.hid (fun w' (hb : RowKit.Below w.heap.size w w') => putR w' (h.keep hb) ⟨ao, an⟩ u r 3 (hr.below hb) (by omega) (by omega))
  have HFin : Hid (∀ w1 w2, RowKit.Below w.heap.size w w1 → RuAt w2 r (u.set 3 (roleI P L ⟨ao, an⟩)) → w1.grownBy w2 (some r) → SayPost (decide (0 ≤ roleI P L ⟨ao, an⟩)) (u.set 3 (roleI P L ⟨ao, an⟩)) r w (.returned (.bool (decide (0 ≤ roleI P L ⟨ao, an⟩)))) w2) := Lib.hid (fun w1 w2 hb h1 h2 => ⟨rfl, ⟨_, h1, fun _ => rfl⟩, below_grew hb h2⟩)
  unfold PutPost Rl.val at HPut
  generalize roleI P L ⟨ao, an⟩ = x at *
  simp only at *
  clear h hr
  have hB : RowKit.Below w.heap.size w (w.alloc (.cells #[.int .i64 2, .string ho, .string hn, .string wh, .string ao, .string an, .string bo, .string bn, .string v] 55)).drew := ((Below.refl _ _).alloc (Nat.le_refl _) _).drew
  have HB := Lib.hid hB
  have hbx : (w.alloc (.cells #[.int .i64 2, .string ho, .string hn, .string wh, .string ao, .string an, .string bo, .string bn, .string v] 55)).drew.heap[w.heap.size]? = some (.cells #[.int .i64 2, .string ho, .string hn, .string wh, .string ao, .string an, .string bo, .string bn, .string v] 55 (0, 0)) := heap_alloc_new w _
  have HBX := Lib.hid hbx
  have HC : Hid (∀ (w' : World), w'.heap[w.heap.size]? = some (.cells #[.int .i64 2, .string ho, .string hn, .string wh, .string ao, .string an, .string bo, .string bn, .string v] 55 (0, 0)) → ∀ o, w'.cell? ⟨w.heap.size, o, none⟩ = (#[.int .i64 2, .string ho, .string hn, .string wh, .string ao, .string an, .string bo, .string bn, .string v] : Array Value)[o]?) := Lib.hid (fun w' e o => Lib.cell_of_heap e o)
  clear hB hbx
  go_enter Tryz.func177, Tryz.ntmps177
  go_wp2_with fail
  go_region_with ((with_reducible refine (HPut.out _ HB.out).mono ?_); rintro e w' ⟨rfl, hru, hg⟩)
  all_goals
    have HF := Lib.hid (HFin.out _ _ HB.out hru hg)
    clear hru hg
    go_wp2_with fail
    go_ret
    exact HF.out
set_option maxHeartbeats 2000000 in
theorem say3 (w0 w : World) (h : TblK w0 t a b A1 c1 A2 c2 P L) (hb0 : RowKit.Below w0.heap.size w0 w) (ho hn wh ao an bo bn v : ByteArray) (u : Ru) (r : Nat) (hr : RuAt w r u) (hr0 : w0.heap.size ≤ r) :
    Calls Tryz.prog 177 #[.pointer (some ⟨t, 0, none⟩), .pointer (some ⟨r, 0, none⟩), .agg #[.int .i64 3, .string ho, .string hn, .string wh, .string ao, .string an, .string bo, .string bn, .string v]] w (SayPost (decide (0 ≤ findI L v.toList) && decide (0 ≤ roleI P L ⟨ao, an⟩)) ((u.set 5 (findI L v.toList)).set 3 (roleI P L ⟨ao, an⟩)) r w) := by
  have hmf : ∀ (fn : Fn) (first cap : Array Value) (w : World), (Instr.makeFunc fn first cap).run Tryz.prog w = .ok (.func fn first cap) w := fun _ _ _ _ => rfl
  have hrlt := hr.lt
  have hB : RowKit.Below w.heap.size w (w.alloc (.cells #[.int .i64 3, .string ho, .string hn, .string wh, .string ao, .string an, .string bo, .string bn, .string v] 55)).drew := ((Below.refl _ _).alloc (Nat.le_refl _) _).drew
  have hbx : (w.alloc (.cells #[.int .i64 3, .string ho, .string hn, .string wh, .string ao, .string an, .string bo, .string bn, .string v] 55)).drew.heap[w.heap.size]? = some (.cells #[.int .i64 3, .string ho, .string hn, .string wh, .string ao, .string an, .string bo, .string bn, .string v] 55 (0, 0)) := heap_alloc_new w _
  have HC : Hid (∀ (w' : World), w'.heap[w.heap.size]? = some (.cells #[.int .i64 3, .string ho, .string hn, .string wh, .string ao, .string an, .string bo, .string bn, .string v] 55 (0, 0)) → ∀ o, w'.cell? ⟨w.heap.size, o, none⟩ = (#[.int .i64 3, .string ho, .string hn, .string wh, .string ao, .string an, .string bo, .string bn, .string v] : Array Value)[o]?) := Lib.hid (fun w' e o => Lib.cell_of_heap e o)
  have HR2 := Lib.hid (hr.below hB)
  have HB0 := Lib.hid (hb0.trans (hB.mono hb0.size))
  have hz : w.heap.size < (w.alloc (.cells #[.int .i64 3, .string ho, .string hn, .string wh, .string ao, .string an, .string bo, .string bn, .string v] 55)).drew.heap.size := by show w.heap.size < (w.alloc _).heap.size; simp
  have HG : Hid (∀ w1 : World, (w.alloc (.cells #[.int .i64 3, .string ho, .string hn, .string wh, .string ao, .string an, .string bo, .string bn, .string v] 55)).drew.grownBy w1 (some r) → RowKit.Below w0.heap.size w0 w1 ∧ w1.heap[w.heap.size]? = some (.cells #[.int .i64 3, .string ho, .string hn, .string wh, .string ao, .string an, .string bo, .string bn, .string v] 55 (0, 0)) ∧ w.grownBy w1 (some r)) := Lib.hid (fun w1 hg => ⟨HB0.out.grown hg HB0.out.size (fun k hk => by injection hk with hk; omega), (hg.block _ hz (by simp; omega)).trans hbx, below_grew hB hg⟩)
  have HBX := Lib.hid hbx
  have HB := Lib.hid hB
  clear hB hbx hz
  have HK := Lib.hid (fun w' hb => links (w := w') (h.keep hb))
  have HV := Lib.hid (fun w' hb (hu : RuAt w' r u) => putS w' b L A2 c2 (by have := h.ll; omega) h.sl (h.keep hb).rb (h.keep hb).lt.2.2 (h.keep hb).b0 v u r 5 hu (by omega) (by omega))
  have HPut := Lib.hid (fun w' hb (hu : RuAt w' r (u.set 5 (findI L v.toList))) => putR w' (h.keep hb) ⟨ao, an⟩ (u.set 5 (findI L v.toList)) r 3 hu (by omega) (by omega))
  unfold PutPost at HV HPut
  unfold Rl.val at HPut
  simp only at HPut
  generalize roleI P L ⟨ao, an⟩ = x at *
  generalize findI L v.toList = y at *
  clear h hr hb0
  by_cases hy : 0 ≤ y
  · have hd : decide (0 ≤ y) = true := decide_eq_true hy
    rw [hd, Bool.true_and]
    rw [hd] at HV
    clear hy hd
    go_enter Tryz.func177, Tryz.ntmps177
    go_wp2_with fail
    go_region_with (first | ((with_reducible refine (HK.out _ HB0.out).mono ?_); rintro e w' ⟨rfl, rfl⟩) | ((with_reducible refine (HV.out _ HB0.out HR2.out).mono ?_); rintro e w1 ⟨rfl, hru, hg⟩))
    all_goals
      obtain ⟨g1, g2, g3⟩ := HG.out _ hg
      have hcx := HC.out _ g2
      have HRU := Lib.hid hru
      have HG1 := Lib.hid g1
      have HG3 := Lib.hid g3
      clear hru hg g1 g2 g3
      have hcx' := fun o => (show w1.drew.cell? ⟨w.heap.size, o, none⟩ = _ from hcx o)
      have HRU2 : Hid (RuAt w1.drew r (u.set 5 y)) := HRU
      have HG12 := Lib.hid HG1.out.drew
      have HFin : Hid (∀ w2, RuAt w2 r ((u.set 5 y).set 3 x) → w1.drew.grownBy w2 (some r) → SayPost (decide (0 ≤ x)) ((u.set 5 y).set 3 x) r w (.returned (.bool (decide (0 ≤ x)))) w2) := Lib.hid (fun w2 h1 h2 => ⟨rfl, ⟨_, h1, fun _ => rfl⟩, grew_trans HG3.out ⟨h2.os, h2.tape, h2.output, h2.size, h2.block⟩⟩)
      go_wp2_with fail
      go_region_with ((with_reducible refine (HPut.out _ HG12.out HRU2.out).mono ?_); rintro e w2 ⟨rfl, hru2, hg2⟩)
      all_goals
        have HF := Lib.hid (HFin.out _ hru2 hg2)
        clear hru2 hg2
        go_wp2_with fail
        go_ret
        exact HF.out
  · have hd : decide (0 ≤ y) = false := decide_eq_false hy
    rw [hd, Bool.false_and]
    rw [hd] at HV
    clear hy hd
    go_enter Tryz.func177, Tryz.ntmps177
    go_wp2_with fail
    go_region_with (first | ((with_reducible refine (HK.out _ HB0.out).mono ?_); rintro e w' ⟨rfl, rfl⟩) | ((with_reducible refine (HV.out _ HB0.out HR2.out).mono ?_); rintro e w1 ⟨rfl, hru, hg⟩))
    all_goals
      obtain ⟨g1, g2, g3⟩ := HG.out _ hg
      have HF := Lib.hid (show SayPost false ((u.set 5 y).set 3 x) r w (.returned (.bool false)) w1 from ⟨rfl, ⟨_, hru, fun h => by cases h⟩, g3⟩)
      clear hru hg g1 g2 g3
      go_wp2_with fail
      go_ret
      exact HF.out
end
end Go.Proofs.YtcmdiomjhideiaaGreatDoor.TblD
/- Tables: say of what is in both of two roles, by contract. -/
namespace Go.Proofs.YtcmdiomjhideiaaGreatDoor.TblE
set_option linter.unusedVariables false
set_option linter.unusedSimpArgs false
open Go.RowKit Go.Sort Go.Lib Go.Proofs Go.Proofs.YtcmdiomjhideiaaGreatDoor.Plain Go.Proofs.YtcmdiomjhideiaaGreatDoor.SynP Go.Proofs.YtcmdiomjhideiaaGreatDoor.TabP Go.Proofs.YtcmdiomjhideiaaGreatDoor.Tab1 Go.Proofs.YtcmdiomjhideiaaGreatDoor.Tab2 Go.Proofs.YtcmdiomjhideiaaGreatDoor.RolK Go.Proofs.YtcmdiomjhideiaaGreatDoor.TblA Go.Proofs.YtcmdiomjhideiaaGreatDoor.TblB Go.Proofs.YtcmdiomjhideiaaGreatDoor.TblC Go.Proofs.YtcmdiomjhideiaaGreatDoor.TblD
set_option linter.unusedVariables false
set_option linter.unusedSimpArgs false
section
variable {t a b : Nat} {A1 : Option Addr} {c1 : Nat} {A2 : Option Addr} {c2 : Nat} {P L : List Str}
set_option maxRecDepth 100000
set_option maxHeartbeats 2000000 in
theorem say4 (w0 w : World) (h : TblK w0 t a b A1 c1 A2 c2 P L) (hb0 : RowKit.Below w0.heap.size w0 w) (ho hn wh ao an bo bn v : ByteArray) (u : Ru) (r : Nat) (hr : RuAt w r u) (hr0 : w0.heap.size ≤ r) :
    Calls Tryz.prog 177 #[.pointer (some ⟨t, 0, none⟩), .pointer (some ⟨r, 0, none⟩), .agg #[.int .i64 4, .string ho, .string hn, .string wh, .string ao, .string an, .string bo, .string bn, .string v]] w (SayPost (decide (0 ≤ roleI P L ⟨ao, an⟩) && decide (0 ≤ roleI P L ⟨bo, bn⟩)) ((u.set 3 (roleI P L ⟨ao, an⟩)).set 4 (roleI P L ⟨bo, bn⟩)) r w) := by
  have hmf : ∀ (fn : Fn) (first cap : Array Value) (w : World), (Instr.makeFunc fn first cap).run Tryz.prog w = .ok (.func fn first cap) w := fun _ _ _ _ => rfl
  have hrlt := hr.lt
  have hB : RowKit.Below w.heap.size w (w.alloc (.cells #[.int .i64 4, .string ho, .string hn, .string wh, .string ao, .string an, .string bo, .string bn, .string v] 55)).drew := ((Below.refl _ _).alloc (Nat.le_refl _) _).drew
  have hbx : (w.alloc (.cells #[.int .i64 4, .string ho, .string hn, .string wh, .string ao, .string an, .string bo, .string bn, .string v] 55)).drew.heap[w.heap.size]? = some (.cells #[.int .i64 4, .string ho, .string hn, .string wh, .string ao, .string an, .string bo, .string bn, .string v] 55 (0, 0)) := heap_alloc_new w _
  have HC : Hid (∀ (w' : World), w'.heap[w.heap.size]? = some (.cells #[.int .i64 4, .string ho, .string hn, .string wh, .string ao, .string an, .string bo, .string bn, .string v] 55 (0, 0)) → ∀ o, w'.cell? ⟨w.heap.size, o, none⟩ = (#[.int .i64 4, .string ho, .string hn, .string wh, .string ao, .string an, .string bo, .string bn, .string v] : Array Value)[o]?) := Lib.hid (fun w' e o => Lib.cell_of_heap e o)
  have HR2 := Lib.hid (hr.below hB)
  have HB0 := Lib.hid (hb0.trans (hB.mono hb0.size))
  have hz : w.heap.size < (w.alloc (.cells #[.int .i64 4, .string ho, .string hn, .string wh, .string ao, .string an, .string bo, .string bn, .string v] 55)).drew.heap.size := by show w.heap.size < (w.alloc _).heap.size; simp
  have HG : Hid (∀ w1 : World, (w.alloc (.cells #[.int .i64 4, .string ho, .string hn, .string wh, .string ao, .string an, .string bo, .string bn, .string v] 55)).drew.grownBy w1 (some r) → RowKit.Below w0.heap.size w0 w1 ∧ w1.heap[w.heap.size]? = some (.cells #[.int .i64 4, .string ho, .string hn, .string wh, .string ao, .string an, .string bo, .string bn, .string v] 55 (0, 0)) ∧ w.grownBy w1 (some r)) := Lib.hid (fun w1 hg => ⟨HB0.out.grown hg HB0.out.size (fun k hk => by injection hk with hk; omega), (hg.block _ hz (by simp; omega)).trans hbx, below_grew hB hg⟩)
  have HBX := Lib.hid hbx
  have HB := Lib.hid hB
  clear hB hbx hz
  have HV := Lib.hid (fun w' hb (hu : RuAt w' r u) => putR w' (h.keep hb) ⟨ao, an⟩ u r 3 hu (by omega) (by omega))
  have HPut := Lib.hid (fun w' hb (hu : RuAt w' r (u.set 3 (roleI P L ⟨ao, an⟩))) => putR w' (h.keep hb) ⟨bo, bn⟩ (u.set 3 (roleI P L ⟨ao, an⟩)) r 4 hu (by omega) (by omega))
  unfold PutPost Rl.val at HV HPut
  simp only at HPut HV
  generalize roleI P L ⟨ao, an⟩ = y at *
  generalize roleI P L ⟨bo, bn⟩ = x at *
  clear h hr hb0
  by_cases hy : 0 ≤ y
  · have hd : decide (0 ≤ y) = true := decide_eq_true hy
    rw [hd, Bool.true_and]
    rw [hd] at HV
    clear hy hd
    go_enter Tryz.func177, Tryz.ntmps177
    go_wp2_with fail
    go_region_with (first | ((with_reducible refine (HV.out _ HB0.out HR2.out).mono ?_); rintro e w1 ⟨rfl, hru, hg⟩; obtain ⟨g1, g2, g3⟩ := HG.out _ hg; have hcx := HC.out _ g2) | ((with_reducible refine (HPut.out _ g1 hru).mono ?_); rintro e w2 ⟨rfl, hru2, hg2⟩))
    all_goals
      have HF := Lib.hid (show SayPost (decide (0 ≤ x)) ((u.set 3 y).set 4 x) r w (.returned (.bool (decide (0 ≤ x)))) w2 from ⟨rfl, ⟨_, hru2, fun _ => rfl⟩, grew_trans g3 hg2⟩)
      clear hru hg g1 g2 g3 hcx hru2 hg2
      go_wp2_with fail
      go_ret
      exact HF.out
  · have hd : decide (0 ≤ y) = false := decide_eq_false hy
    rw [hd, Bool.false_and]
    rw [hd] at HV
    clear hy hd
    go_enter Tryz.func177, Tryz.ntmps177
    go_wp2_with fail
    refine wp_region_any (by kernel_rfl) ?_
    try (change wpAny _ _ _ _ _ _ _ (World.drew _))
    refine wpAny_take (i := 0) (v := ?_) rfl (by kernel_rfl) (by kernel_rfl) (by kernel_rfl) (fun _ _ _ h => h) (Or.inl ⟨by kernel_rfl, ?_⟩) ?_
    rotate_left
    · intro w; go_simp; try with_reducible rfl
    refine wpAny_take (i := 1) (v := ?_) rfl (by kernel_rfl) (by kernel_rfl) (by kernel_rfl) (fun _ _ _ h => h) (Or.inl ⟨by kernel_rfl, ?_⟩) ?_
    rotate_left
    · intro w; go_simp; try with_reducible rfl
    refine wpAny_take (i := 2) (v := ?_) rfl (by kernel_rfl) (by kernel_rfl) (by kernel_rfl) (fun _ _ _ h => h) (Or.inl ⟨by kernel_rfl, ?_⟩) ?_
    rotate_left
    · intro w; go_simp; try with_reducible rfl
    refine wpAny_take (i := 3) (v := ?_) rfl (by kernel_rfl) (by kernel_rfl) (by kernel_rfl) (fun _ _ _ h => h) (Or.inl ⟨by kernel_rfl, ?_⟩) ?_
    rotate_left
    · intro w; go_simp; try with_reducible rfl
    refine wpAny_take (i := 4) (v := ?_) rfl (by kernel_rfl) (by kernel_rfl) (by kernel_rfl) (fun _ _ _ h => h) (Or.inl ⟨by kernel_rfl, ?_⟩) ?_
    rotate_left
    · intro w; go_simp; try with_reducible rfl
    refine wpAny_take (i := 5) (v := ?_) rfl (by kernel_rfl) (by kernel_rfl) (by kernel_rfl) (fun _ _ _ h => h) (Or.inl ⟨by kernel_rfl, ?_⟩) ?_
    rotate_left
    · intro w; go_simp; try with_reducible rfl
    refine wpAny_ready (rs := [6]) (by kernel_rfl) (by simp) ?_
    refine AllReady.cons rfl (fun K hK => ?_) AllReady.nil
    go_simp
    refine hK _ _ ?_
    clear hK K
    refine wpAny_ready (rs := [7]) (by kernel_rfl) (by simp) ?_
    refine AllReady.cons rfl (fun K hK => ?_) AllReady.nil
    go_simp
    go_wp2_with ((with_reducible refine (HV.out _ HB0.out HR2.out).mono ?_); rintro e w1 ⟨rfl, hru, hg⟩)
    refine wpAny_take (i := 8) (v := ?_) rfl (by kernel_rfl) (by kernel_rfl) (by kernel_rfl) (fun _ _ _ h => h) (Or.inl ⟨by kernel_rfl, ?_⟩) ?_
    rotate_left
    · intro w; go_simp; try with_reducible rfl
    refine wpAny_take (i := 9) (v := undef) rfl (by kernel_rfl) (by kernel_rfl) (by kernel_rfl) (fun _ _ _ h => h) (Or.inr ⟨by kernel_rfl, rfl⟩) ?_
    refine wpAny_take (i := 10) (v := undef) rfl (by kernel_rfl) (by kernel_rfl) (by kernel_rfl) (fun _ _ _ h => h) (Or.inr ⟨by kernel_rfl, rfl⟩) ?_
    refine wpAny_take (i := 11) (v := undef) rfl (by kernel_rfl) (by kernel_rfl) (by kernel_rfl) (fun _ _ _ h => h) (Or.inr ⟨by kernel_rfl, rfl⟩) ?_
    refine wpAny_take (i := 12) (v := undef) rfl (by kernel_rfl) (by kernel_rfl) (by kernel_rfl) (fun _ _ _ h => h) (Or.inr ⟨by kernel_rfl, rfl⟩) ?_
    refine wpAny_take (i := 13) (v := undef) rfl (by kernel_rfl) (by kernel_rfl) (by kernel_rfl) (fun _ _ _ h => h) (Or.inr ⟨by kernel_rfl, rfl⟩) ?_
    refine wpAny_take (i := 14) (v := undef) rfl (by kernel_rfl) (by kernel_rfl) (by kernel_rfl) (fun _ _ _ h => h) (Or.inr ⟨by kernel_rfl, rfl⟩) ?_
    refine wpAny_take (i := 15) (v := undef) rfl (by kernel_rfl) (by kernel_rfl) (by kernel_rfl) (fun _ _ _ h => h) (Or.inr ⟨by kernel_rfl, rfl⟩) ?_
    refine wpAny_take (i := 16) (v := undef) rfl (by kernel_rfl) (by kernel_rfl) (by kernel_rfl) (fun _ _ _ h => h) (Or.inr ⟨by kernel_rfl, rfl⟩) ?_
    refine wpAny_take (i := 17) (v := ?_) rfl (by kernel_rfl) (by kernel_rfl) (by kernel_rfl) (fun _ _ _ h => h) (Or.inl ⟨by kernel_rfl, ?_⟩) ?_
    rotate_left
    · intro w; go_simp; try with_reducible rfl
    refine wpAny_take (i := 18) (v := ?_) rfl (by kernel_rfl) (by kernel_rfl) (by kernel_rfl) (fun _ _ _ h => h) (Or.inl ⟨by kernel_rfl, ?_⟩) ?_
    rotate_left
    · intro w; go_simp; try with_reducible rfl
    refine wpAny_done (by kernel_rfl) ?_ _
    · obtain ⟨g1, g2, g3⟩ := HG.out _ hg
      have HF := Lib.hid (show SayPost false ((u.set 3 y).set 4 x) r w (.returned (.bool false)) w1 from ⟨rfl, ⟨_, hru, fun h => by cases h⟩, g3⟩)
      clear hru hg g1 g2 g3
      go_wp2_with fail
      go_ret
      refine cast (congrArg (fun z => SayPost false ((u.set 3 y).set 4 x) r w (Ending.returned z) w1) ?_) HF.out
      kernel_rfl
end
end Go.Proofs.YtcmdiomjhideiaaGreatDoor.TblE
/- Tables: Rule, by contract. -/
namespace Go.Proofs.YtcmdiomjhideiaaGreatDoor.TblF
set_option linter.unusedVariables false
set_option linter.unusedSimpArgs false
open Go.RowKit Go.Sort Go.Lib Go.Proofs Go.Proofs.YtcmdiomjhideiaaGreatDoor.Plain Go.Proofs.YtcmdiomjhideiaaGreatDoor.SynP Go.Proofs.YtcmdiomjhideiaaGreatDoor.Grown Go.Proofs.YtcmdiomjhideiaaGreatDoor.TabP Go.Proofs.YtcmdiomjhideiaaGreatDoor.Tab1 Go.Proofs.YtcmdiomjhideiaaGreatDoor.Tab2 Go.Proofs.YtcmdiomjhideiaaGreatDoor.RolK Go.Proofs.YtcmdiomjhideiaaGreatDoor.TblA Go.Proofs.YtcmdiomjhideiaaGreatDoor.TblB Go.Proofs.YtcmdiomjhideiaaGreatDoor.TblC Go.Proofs.YtcmdiomjhideiaaGreatDoor.TblD Go.Proofs.YtcmdiomjhideiaaGreatDoor.TblE
set_option linter.unusedVariables false
set_option linter.unusedSimpArgs false
def ruleV (P L : List Str) (s : St) : Ru :=
  ⟨s.kind, roleI P L s.head, if s.kind = 1 then findI P s.who.toList else 0, if s.kind = 1 then 0 else roleI P L s.a, if s.kind = 4 then roleI P L s.b else 0, if s.kind = 3 then findI L s.via.toList else 0⟩
def restOk (P L : List Str) (s : St) : Bool :=
  if s.kind = 1 then decide (0 ≤ findI P s.who.toList) else if s.kind = 3 then decide (0 ≤ findI L s.via.toList) && decide (0 ≤ roleI P L s.a) else if s.kind = 4 then decide (0 ≤ roleI P L s.a) && decide (0 ≤ roleI P L s.b) else decide (0 ≤ roleI P L s.a)
def ruleOk (P L : List Str) (s : St) : Bool := s.right && decide (0 ≤ roleI P L s.head) && restOk P L s
def ruleA (P L : List Str) (s : St) : Ru := if ruleOk P L s then ruleV P L s else zeroU
theorem kind_of_right {s : St} (h : s.right = true) : s.kind = 1 ∨ s.kind = 2 ∨ s.kind = 3 ∨ s.kind = 4 := by
  unfold St.right at h
  rw [Bool.and_eq_true, Bool.and_eq_true] at h
  have h2 := h.1.2
  unfold St.says at h2
  by_cases a : s.kind = 1
  · exact Or.inl a
  · rw [if_neg a] at h2
    by_cases b : s.kind = 2
    · exact Or.inr (Or.inl b)
    · rw [if_neg b] at h2
      by_cases c : s.kind = 3
      · exact Or.inr (Or.inr (Or.inl c))
      · rw [if_neg c] at h2
        by_cases d : s.kind = 4
        · exact Or.inr (Or.inr (Or.inr d))
        · rw [if_neg d] at h2; cases h2
section
variable {t a b : Nat} {A1 : Option Addr} {c1 : Nat} {A2 : Option Addr} {c2 : Nat} {P L : List Str}
set_option maxRecDepth 100000
theorem say (w0 w : World) (h : TblK w0 t a b A1 c1 A2 c2 P L) (hb0 : RowKit.Below w0.heap.size w0 w) (s : St) (hs : s.right = true) (r : Nat) (hr : RuAt w r ⟨s.kind, roleI P L s.head, 0, 0, 0, 0⟩) (hr0 : w0.heap.size ≤ r) :
    Calls Tryz.prog 177 #[.pointer (some ⟨t, 0, none⟩), .pointer (some ⟨r, 0, none⟩), s.val] w (SayPost (restOk P L s) (ruleV P L s) r w) := by
  obtain ⟨k, ⟨ho, hn⟩, wh, ⟨ao, an⟩, ⟨bo, bn⟩, v⟩ := s
  rcases kind_of_right hs with hk | hk | hk | hk
  all_goals (simp only at hk; subst hk)
  · exact say1 w (h.keep hb0) ho hn wh ao an bo bn v _ r hr
  · exact say2 w (h.keep hb0) ho hn wh ao an bo bn v _ r hr
  · exact say3 w0 w h hb0 ho hn wh ao an bo bn v _ r hr hr0
  · exact say4 w0 w h hb0 ho hn wh ao an bo bn v _ r hr hr0
def RulePost (ok : Bool) (u : Ru) (w : World) (e : Ending) (w' : World) : Prop := e = .returned (.tuple #[.agg u.cells, .bool ok]) ∧ RowKit.Below w.heap.size w w'
set_option maxHeartbeats 1000000 in
theorem rule_no (w : World) (h : TblK w t a b A1 c1 A2 c2 P L) (s : St) (hf : s.fit) (hs : s.right = false) :
    Calls Tryz.prog 129 #[.pointer (some ⟨t, 0, none⟩), s.val] w (RulePost (ruleOk P L s) (ruleA P L s) w) := by
  have ho : ruleOk P L s = false := by unfold ruleOk; rw [hs]; rfl
  have hu : ruleA P L s = zeroU := by unfold ruleA; rw [ho]; rfl
  rw [ho, hu]
  have HR : Hid (∀ w', Calls Tryz.prog 175 #[s.val] w' fun e w'' => e = .returned (.bool false) ∧ RowKit.Below w'.heap.size w' w'') := Lib.hid (fun w' => (Syn7.right s w' hf).mono fun e w'' h => ⟨by rw [h.1, hs], h.2.below⟩)
  obtain ⟨k, ⟨ho', hn⟩, wh, ⟨ao, an⟩, ⟨bo, bn⟩, v⟩ := s
  unfold St.val at *
  simp only at *
  clear h hf hs ho hu
  go_enter Tryz.func129, Tryz.ntmps129
  go_wp2_with fail
  refine (HR.out _).mono ?_
  rintro e w1 ⟨rfl, hb⟩
  have h4 : w1.heap[w.heap.size + 1]? = some (.cells zeroU.cells 143 (0, 0)) := (hb.block _ (by simp <;> omega)).trans ((Below.heap_alloc _ _ _ (by simp)).trans (heap_alloc2_new w _ _))
  have hbel : RowKit.Below w.heap.size w w1 := ((((Below.refl w.heap.size w).alloc (Nat.le_refl _) _).alloc (by simp) _).alloc (by simp <;> omega) _).trans (hb.mono (by simp <;> omega))
  have H4 := Lib.hid h4
  have HB := Lib.hid hbel
  clear h4 hbel hb
  go_wp2_with (refine wpList_store_row rfl 143 _ _ rfl (w.heap.size + 1) zeroU.cells rfl rfl 143 _ H4.out infoRule rfl (one6 _) ?_)
  have hl := cell_rule (u := zeroU) H4.out
  have hz := below_setRow HB.out (show w.heap.size ≤ w.heap.size + 1 by omega) (zeroU).cells
  generalize World.setRow _ (w.heap.size + 1) (zeroU).cells = wz at hl hz ⊢
  refine bodyPost_ret (v := .tuple #[.agg zeroU.cells, .bool false]) (by simp [results, Tryz.results129, go_sem, hl, Ru.cells]) rfl ⟨rfl, hz⟩
set_option maxHeartbeats 2000000 in
theorem rule_yes (w : World) (h : TblK w t a b A1 c1 A2 c2 P L) (s : St) (hf : s.fit) (hs : s.right = true) :
    Calls Tryz.prog 129 #[.pointer (some ⟨t, 0, none⟩), s.val] w (RulePost (ruleOk P L s) (ruleA P L s) w) := by
  have HR : Hid (∀ w', Calls Tryz.prog 175 #[s.val] w' fun e w'' => e = .returned (.bool true) ∧ RowKit.Below w'.heap.size w' w'') := Lib.hid (fun w' => (Syn7.right s w' hf).mono fun e w'' h => ⟨by rw [h.1, hs], h.2.below⟩)
  have HPut := Lib.hid (fun w' hb r hr => putR w' (h.keep hb) s.head ⟨s.kind, 0, 0, 0, 0, 0⟩ r 1 hr (by omega) (by omega))
  have HSay := Lib.hid (fun w' hb r hr hr0 => say w w' h hb s hs r hr hr0)
  have hru : ruleOk P L s = (decide (0 ≤ roleI P L s.head) && restOk P L s) := by unfold ruleOk; rw [hs, Bool.true_and]
  have hua : ∀ o, ruleOk P L s = o → ruleA P L s = if o then ruleV P L s else zeroU := fun o e => by unfold ruleA; rw [e]
  have HU := Lib.hid hua
  have HO := Lib.hid hru
  unfold PutPost at HPut
  unfold SayPost at HSay
  obtain ⟨k, ⟨ho', hn⟩, wh, ⟨ao, an⟩, ⟨bo, bn⟩, v⟩ := s
  have hset : (⟨k, 0, 0, 0, 0, 0⟩ : Ru).set 1 (roleI P L ⟨ho', hn⟩) = ⟨k, roleI P L ⟨ho', hn⟩, 0, 0, 0, 0⟩ := rfl
  unfold St.val Rl.val at *
  simp only [hset] at *
  generalize ruleV P L _ = uV at *
  generalize ruleA P L _ = uA at *
  generalize ruleOk P L _ = ok at *
  generalize restOk P L _ = rest at *
  generalize roleI P L _ = x at *
  clear h hf hs hru hua hset
  have hmf : ∀ (fn : Fn) (first cap : Array Value) (w : World), (Instr.makeFunc fn first cap).run Tryz.prog w = .ok (.func fn first cap) w := fun _ _ _ _ => rfl
  have key : ∀ w1 : World, RowKit.Below (((w.alloc (.cells #[.int .i64 k, .string ho', .string hn, .string wh, .string ao, .string an, .string bo, .string bn, .string v] 55)).alloc (.cells #[.int .i64 0, .int .i64 0, .int .i64 0, .int .i64 0, .int .i64 0, .int .i64 0] 143)).alloc (.cells #[.int .i64 k, .int .i64 0, .int .i64 0, .int .i64 0, .int .i64 0, .int .i64 0] 143)).heap.size (((w.alloc (.cells #[.int .i64 k, .string ho', .string hn, .string wh, .string ao, .string an, .string bo, .string bn, .string v] 55)).alloc (.cells #[.int .i64 0, .int .i64 0, .int .i64 0, .int .i64 0, .int .i64 0, .int .i64 0] 143)).alloc (.cells #[.int .i64 k, .int .i64 0, .int .i64 0, .int .i64 0, .int .i64 0, .int .i64 0] 143)) w1 →
      RowKit.Below w.heap.size w w1 ∧ w1.heap[w.heap.size]? = some (.cells #[.int .i64 k, .string ho', .string hn, .string wh, .string ao, .string an, .string bo, .string bn, .string v] 55 (0, 0)) ∧ w1.heap[w.heap.size + 1]? = some (.cells zeroU.cells 143 (0, 0)) ∧ RuAt w1 (w.heap.size + 2) ⟨k, 0, 0, 0, 0, 0⟩ := fun w1 hb => by
    refine ⟨((((Below.refl w.heap.size w).alloc (Nat.le_refl _) _).alloc (by simp) _).alloc (by simp <;> omega) _).trans (hb.mono (by simp <;> omega)), ?_, ?_, ?_⟩
    · exact (hb.block _ (by simp <;> omega)).trans ((Below.heap_alloc _ _ _ (by simp <;> omega)).trans (heap_alloc2_old w _ _))
    · exact (hb.block _ (by simp <;> omega)).trans ((Below.heap_alloc _ _ _ (by simp)).trans (heap_alloc2_new w _ _))
    · have e := heap_alloc_new ((w.alloc (.cells #[.int .i64 k, .string ho', .string hn, .string wh, .string ao, .string an, .string bo, .string bn, .string v] 55)).alloc (.cells #[.int .i64 0, .int .i64 0, .int .i64 0, .int .i64 0, .int .i64 0, .int .i64 0] 143)) (.cells #[.int .i64 k, .int .i64 0, .int .i64 0, .int .i64 0, .int .i64 0, .int .i64 0] 143)
      have hz : ((w.alloc (.cells #[.int .i64 k, .string ho', .string hn, .string wh, .string ao, .string an, .string bo, .string bn, .string v] 55)).alloc (.cells #[.int .i64 0, .int .i64 0, .int .i64 0, .int .i64 0, .int .i64 0, .int .i64 0] 143)).heap.size = w.heap.size + 2 := by simp
      rw [hz] at e
      exact (hb.block _ (by simp)).trans e
  have HK := Lib.hid key
  clear key
  have HC : Hid (∀ (w' : World), w'.heap[w.heap.size]? = some (.cells #[.int .i64 k, .string ho', .string hn, .string wh, .string ao, .string an, .string bo, .string bn, .string v] 55 (0, 0)) → ∀ o, w'.cell? ⟨w.heap.size, o, none⟩ = (#[.int .i64 k, .string ho', .string hn, .string wh, .string ao, .string an, .string bo, .string bn, .string v] : Array Value)[o]?) := Lib.hid (fun w' e o => Lib.cell_of_heap e o)
  go_enter Tryz.func129, Tryz.ntmps129
  go_wp2_with fail
  refine (HR.out _).mono ?_
  rintro e w1 ⟨rfl, hb⟩
  obtain ⟨k1, k2, k3, k4⟩ := HK.out w1 hb
  have hc1 := HC.out w1 k2
  have H1 := Lib.hid k1
  have H2 := Lib.hid k2
  have H3 := Lib.hid k3
  have H4 := Lib.hid k4
  clear k1 k2 k3 k4 hb
  go_wp2_with fail
  refine (HPut.out _ H1.out (w.heap.size + 2) H4.out).mono ?_
  rintro e w2 ⟨rfl, hru, hg⟩
  have h1 := H1.out.grown hg H1.out.size (fun k hk => by injection hk with hk; omega)
  have hlt3 : w.heap.size + 2 < w1.heap.size := RuAt.lt H4.out
  have hg2 := (hg.block w.heap.size (by omega) (by simp)).trans H2.out
  have hg3 := (hg.block (w.heap.size + 1) (by omega) (by simp)).trans H3.out
  have G1 := Lib.hid h1
  have G2 := Lib.hid hg2
  have G3 := Lib.hid hg3
  have G4 := Lib.hid hru
  have hc2 := HC.out w2 hg2
  clear hc1 H1 H2 H3 H4 hru hg h1 hg2 hg3 hlt3
  by_cases hx : 0 ≤ x
  · have hd : decide (0 ≤ x) = true := decide_eq_true hx
    have ho := HO.out
    rw [hd, Bool.true_and] at ho
    subst ho
    clear hx
    go_wp2_with fail
    refine (HSay.out _ G1.out (w.heap.size + 2) G4.out (by omega)).mono ?_
    rintro e w3 ⟨rfl, ⟨u', hu', hq⟩, hg⟩
    have hlt3 : w.heap.size + 2 < w2.heap.size := RuAt.lt G4.out
    have h3 := (hg.block (w.heap.size + 1) (by omega) (by simp)).trans G3.out
    have h1 := G1.out.grown hg G1.out.size (fun k hk => by injection hk with hk; omega)
    have K1 := Lib.hid h1
    have K3 := Lib.hid h3
    have K4 := Lib.hid hu'
    have KQ := Lib.hid hq
    clear hc2 G1 G2 G3 G4 hu' hq hg h1 h3 hlt3
    have hfin := HU.out
    cases ok
    · have e2 := HU.out false rfl
      simp only [Bool.false_eq_true, if_false] at e2
      subst e2
      clear hfin
      go_wp2_with (refine wpList_store_row rfl 143 _ _ rfl (w.heap.size + 1) zeroU.cells rfl rfl 143 _ K3.out infoRule rfl (one6 _) ?_)
      have hl := cell_rule (u := zeroU) K3.out
      have hz := below_setRow K1.out (show w.heap.size ≤ w.heap.size + 1 by omega) (zeroU).cells
      generalize World.setRow _ (w.heap.size + 1) (zeroU).cells = wz at hl hz ⊢
      refine bodyPost_ret (v := .tuple #[.agg zeroU.cells, .bool false]) (by simp [results, Tryz.results129, go_sem, hl, Ru.cells]) rfl ⟨rfl, hz⟩
    · have e2 := HU.out true rfl
      simp only [if_true] at e2
      obtain rfl := KQ.out rfl
      subst e2
      clear hfin
      go_wp2_with (first | (refine wpList_load_row rfl 143 _ rfl (w.heap.size + 1 + 1) rfl 143 uA.cells (0, 0) _ K4.out Tryz.underlying143 rfl infoRule ?_) | (refine wpList_store_row rfl 143 _ _ rfl (w.heap.size + 1) uA.cells rfl rfl 143 _ K3.out infoRule rfl (one6 _) ?_))
      have hl := cell_rule (u := uA) K3.out
      have hz := below_setRow K1.out (show w.heap.size ≤ w.heap.size + 1 by omega) uA.cells
      generalize World.setRow _ (w.heap.size + 1) uA.cells = wz at hl hz ⊢
      refine bodyPost_ret (v := .tuple #[.agg uA.cells, .bool true]) (by simp [results, Tryz.results129, go_sem, hl, Ru.cells]) rfl ⟨rfl, hz⟩
  · have hd : decide (0 ≤ x) = false := decide_eq_false hx
    have ho := HO.out
    rw [hd, Bool.false_and] at ho
    subst ho
    have e2 := HU.out false rfl
    simp only [Bool.false_eq_true, if_false] at e2
    subst e2
    clear hx
    go_wp2_with (refine wpList_store_row rfl 143 _ _ rfl (w.heap.size + 1) zeroU.cells rfl rfl 143 _ G3.out infoRule rfl (one6 _) ?_)
    have hl := cell_rule (u := zeroU) G3.out
    have hz := below_setRow G1.out (show w.heap.size ≤ w.heap.size + 1 by omega) (zeroU).cells
    generalize World.setRow _ (w.heap.size + 1) (zeroU).cells = wz at hl hz ⊢
    refine bodyPost_ret (v := .tuple #[.agg zeroU.cells, .bool false]) (by simp [results, Tryz.results129, go_sem, hl, Ru.cells]) rfl ⟨rfl, hz⟩
theorem rule (w : World) (h : TblK w t a b A1 c1 A2 c2 P L) (s : St) (hf : s.fit) :
    Calls Tryz.prog 129 #[.pointer (some ⟨t, 0, none⟩), s.val] w (RulePost (ruleOk P L s) (ruleA P L s) w) := by
  cases hs : s.right with
  | true => exact rule_yes w h s hf hs
  | false => exact rule_no w h s hf hs
end
end Go.Proofs.YtcmdiomjhideiaaGreatDoor.TblF
/- The document's Place, Role and Rule, by contract. -/
namespace Go.Proofs.YtcmdiomjhideiaaGreatDoor.TblG
set_option linter.unusedVariables false
set_option linter.unusedSimpArgs false
open Go.RowKit Go.Sort Go.Lib Go.Proofs Go.Proofs.YtcmdiomjhideiaaGreatDoor.Plain Go.Proofs.YtcmdiomjhideiaaGreatDoor.SynP Go.Proofs.YtcmdiomjhideiaaGreatDoor.TabP Go.Proofs.YtcmdiomjhideiaaGreatDoor.Tab1 Go.Proofs.YtcmdiomjhideiaaGreatDoor.Tab2 Go.Proofs.YtcmdiomjhideiaaGreatDoor.RolK Go.Proofs.YtcmdiomjhideiaaGreatDoor.TblA Go.Proofs.YtcmdiomjhideiaaGreatDoor.TblB Go.Proofs.YtcmdiomjhideiaaGreatDoor.TblC
set_option linter.unusedVariables false
set_option linter.unusedSimpArgs false
section
set_option maxRecDepth 100000
end
end Go.Proofs.YtcmdiomjhideiaaGreatDoor.TblG
/- The document's Rule, by contract. -/
namespace Go.Proofs.YtcmdiomjhideiaaGreatDoor.TblH
set_option linter.unusedVariables false
set_option linter.unusedSimpArgs false
open Go.RowKit Go.Sort Go.Lib Go.Proofs Go.Proofs.YtcmdiomjhideiaaGreatDoor.Plain Go.Proofs.YtcmdiomjhideiaaGreatDoor.SynP Go.Proofs.YtcmdiomjhideiaaGreatDoor.Grown Go.Proofs.YtcmdiomjhideiaaGreatDoor.TabP Go.Proofs.YtcmdiomjhideiaaGreatDoor.Tab1 Go.Proofs.YtcmdiomjhideiaaGreatDoor.Tab2 Go.Proofs.YtcmdiomjhideiaaGreatDoor.RolK Go.Proofs.YtcmdiomjhideiaaGreatDoor.TblA Go.Proofs.YtcmdiomjhideiaaGreatDoor.TblB Go.Proofs.YtcmdiomjhideiaaGreatDoor.TblC Go.Proofs.YtcmdiomjhideiaaGreatDoor.TblF Go.Proofs.YtcmdiomjhideiaaGreatDoor.TblG
set_option linter.unusedVariables false
set_option linter.unusedSimpArgs false
section
variable {P L : List Str}
set_option maxRecDepth 100000
/-- What the rest of the document's Rule starts from. -/
structure Mid (w wx : World) (N : Nat) (k : Int) (ho' hn wh ao an bo bn v : ByteArray) (u : Ru) : Prop where
  below : RowKit.Below w.heap.size w wx
  box : wx.heap[w.heap.size]? = some (.cells #[.int .i64 k, .string ho', .string hn, .string wh, .string ao, .string an, .string bo, .string bn, .string v] 55 (0, 0))
  out : wx.heap[w.heap.size + 1]? = some (.cells zeroU.cells 143 (0, 0))
  at_ : RuAt wx N u
  far : w.heap.size + 2 ≤ N
theorem Mid.keep {w wx w' : World} {N : Nat} {k : Int} {ho' hn wh ao an bo bn v : ByteArray} {u : Ru} (h : Mid w wx N k ho' hn wh ao an bo bn v u) (hb : RowKit.Below wx.heap.size wx w') : Mid w w' N k ho' hn wh ao an bo bn v u :=
  ⟨h.below.trans (hb.mono h.below.size), (hb.block _ (Array.getElem?_eq_some_iff.1 h.box).1).trans h.box, (hb.block _ (Array.getElem?_eq_some_iff.1 h.out).1).trans h.out, h.at_.below hb, h.far⟩
theorem Mid.put {w wx : World} {N : Nat} {k : Int} {ho' hn wh ao an bo bn v : ByteArray} {u : Ru} (h : Mid w wx N k ho' hn wh ao an bo bn v u) (o : Nat) (h1 : 1 ≤ o) (h5 : o ≤ 5) (x : Int) : Mid w (wx.setCell ⟨N, o, none⟩ (.int .i64 x)) N k ho' hn wh ao an bo bn v (u.set o x) := by
  have hf := h.far
  exact ⟨h.below.setCell (by show w.heap.size ≤ N; omega) _, (Below.heap_setCell _ _ _ _ (by show w.heap.size ≠ N; omega)).trans h.box, (Below.heap_setCell _ _ _ _ (by show w.heap.size + 1 ≠ N; omega)).trans h.out, h.at_.put o h1 h5 x, h.far⟩
end
end Go.Proofs.YtcmdiomjhideiaaGreatDoor.TblH
/- Tables: New, the document's Rule for all statements, and the example, by contract. -/
namespace Go.Proofs.YtcmdiomjhideiaaGreatDoor.TblI
set_option linter.unusedVariables false
set_option linter.unusedSimpArgs false
open Go.RowKit Go.Sort Go.Lib Go.Proofs Go.Proofs.YtcmdiomjhideiaaGreatDoor.Plain Go.Proofs.YtcmdiomjhideiaaGreatDoor.SynP Go.Proofs.YtcmdiomjhideiaaGreatDoor.SynE Go.Proofs.YtcmdiomjhideiaaGreatDoor.Grown Go.Proofs.YtcmdiomjhideiaaGreatDoor.TabP Go.Proofs.YtcmdiomjhideiaaGreatDoor.Tab1 Go.Proofs.YtcmdiomjhideiaaGreatDoor.Tab2 Go.Proofs.YtcmdiomjhideiaaGreatDoor.Tab5 Go.Proofs.YtcmdiomjhideiaaGreatDoor.RolK Go.Proofs.YtcmdiomjhideiaaGreatDoor.TblA Go.Proofs.YtcmdiomjhideiaaGreatDoor.TblB Go.Proofs.YtcmdiomjhideiaaGreatDoor.TblC Go.Proofs.YtcmdiomjhideiaaGreatDoor.TblF Go.Proofs.YtcmdiomjhideiaaGreatDoor.TblG Go.Proofs.YtcmdiomjhideiaaGreatDoor.TblH
set_option linter.unusedVariables false
set_option linter.unusedSimpArgs false
def NewTPost (P L : List Str) (w : World) (e : Ending) (w' : World) : Prop := ∃ t a b A1 c1 A2 c2, e = .returned (.pointer (some ⟨t, 0, none⟩)) ∧ TblK w' t a b A1 c1 A2 c2 P L ∧ RowKit.Below w.heap.size w w'
set_option maxRecDepth 100000 in
theorem newT (A B : Option Addr) (ca cb : Nat) (P L : List Str) (w : World) (hP : P.length ≤ 100000) (hL : L.length ≤ 100000) (hA : SRow w A P) (hB : SRow w B L) :
    Calls Tryz.prog 122 #[.slice A P.length ca, .slice B L.length cb] w (NewTPost (tab P) (tab L) w) := by
  have HB := Lib.hid hB
  have H1 := Lib.hid (Tab1.new A ca P w (by omega) hA)
  have H2 := Lib.hid (fun w' (hb : RowKit.Below w.heap.size w w') => Tab1.new B cb L w' (by omega) (HB.out.keep hb))
  clear hA hB
  go_enter Tryz.func122, Tryz.ntmps122
  go_wp2_with fail
  refine H1.out.mono ?_
  rintro e w1 ⟨p, rfl, ⟨t1, v1, rfl, hB1, hh1, ho1⟩, hb1⟩
  obtain ⟨A1, c1, rfl, _, hr1⟩ := SRow.of_own ho1
  have K1 := Lib.hid hh1
  have R1 := Lib.hid hr1
  have B1 := Lib.hid hb1
  clear hh1 ho1 hr1 hb1 hB1
  go_wp2_with fail
  refine (H2.out _ B1.out).mono ?_
  rintro e w2 ⟨p, rfl, ⟨t2, v2, rfl, hB2, hh2, ho2⟩, hb2⟩
  obtain ⟨A2, c2, rfl, _, hr2⟩ := SRow.of_own ho2
  have l1 : t1 < w1.heap.size := (Array.getElem?_eq_some_iff.1 K1.out).1
  have l2 : t2 < w2.heap.size := (Array.getElem?_eq_some_iff.1 hh2).1
  have hz := hb2.size
  have hbx : RowKit.Below w2.heap.size w2 (w2.alloc (.cells #[.pointer (some ⟨t1, 0, none⟩), .pointer (some ⟨t2, 0, none⟩)] 110)) := (Below.refl _ _).alloc (Nat.le_refl _) _
  have hk1 := (hbx.block t1 (by omega)).trans ((hb2.block t1 l1).trans K1.out)
  have hk2 := (hbx.block t2 l2).trans hh2
  have hnew := heap_alloc_new w2 (.cells #[.pointer (some ⟨t1, 0, none⟩), .pointer (some ⟨t2, 0, none⟩)] 110)
  have HK : Hid (TblK (w2.alloc (.cells #[.pointer (some ⟨t1, 0, none⟩), .pointer (some ⟨t2, 0, none⟩)] 110)) w2.heap.size t1 t2 A1 c1 A2 c2 (tab P) (tab L)) := Lib.hid {
    t0 := by rw [Lib.cell_of_heap hnew]; rfl
    t1 := by rw [Lib.cell_of_heap hnew]; rfl
    a0 := by rw [Lib.cell_of_heap hk1]; rfl
    b0 := by rw [Lib.cell_of_heap hk2]; rfl
    ra := (R1.out.keep hb2).keep hbx
    rb := hr2.keep hbx
    lt := ⟨by simp, by simp; omega, by simp; omega⟩
    sp := tab_sorted P
    sl := tab_sorted L
    pl := by have := tab_len_le P; omega
    ll := by have := tab_len_le L; omega }
  have HBB := Lib.hid ((B1.out.trans (hb2.mono B1.out.size)).trans (hbx.mono (by have := B1.out.size; omega)))
  clear hh2 ho2 hr2 hb2 hB2 hbx hk1 hk2 hnew
  go_wp2_with fail
  go_ret
  exact ⟨_, t1, t2, A1, c1, A2, c2, rfl, HK.out, HBB.out⟩
end Go.Proofs.YtcmdiomjhideiaaGreatDoor.TblI
/- Which statements are light. -/
namespace Go.Proofs.YtcmdiomjhideiaaGreatDoor.TblM
set_option linter.unusedVariables false
set_option linter.unusedSimpArgs false
open Go.RowKit Go.Sort Go.Proofs Go.Proofs.YtcmdiomjhideiaaGreatDoor.Plain Go.Proofs.YtcmdiomjhideiaaGreatDoor.SynP Go.Proofs.YtcmdiomjhideiaaGreatDoor.Grown Go.Proofs.YtcmdiomjhideiaaGreatDoor.Syn1
set_option linter.unusedVariables false
set_option linter.unusedSimpArgs false
def textsOf (s : St) : List ByteArray := [s.who, s.via, s.head.owner, s.head.name, s.a.owner, s.a.name, s.b.owner, s.b.name]
def lightL (l : List ByteArray) : Bool := l.all fun x => decide (x.size ≤ 40)
def lightS (s : St) : Bool := lightL (textsOf s)
theorem light_no {l : List ByteArray} {k : Nat} (h : k < l.length) (hk : ¬ l[k].size ≤ 40) : lightL l = false := by
  unfold lightL
  rw [List.all_eq_false]
  exact ⟨l[k], List.getElem_mem _, by simp; omega⟩
theorem light_yes {l : List ByteArray} (h : ∀ k, (hk : k < l.length) → l[k].size ≤ 40) : lightL l = true := by
  unfold lightL
  rw [List.all_eq_true]
  intro x hx
  obtain ⟨k, hk, rfl⟩ := List.getElem_of_mem hx
  simpa using h k hk
set_option maxRecDepth 100000 in
theorem light (s : St) (w : World) : Calls Tryz.prog 64 #[s.val] w fun e w' => e = .returned (.bool (lightS s)) ∧ Grew w w' := by
  have hl : (textsOf s).length = 8 := rfl
  obtain ⟨k1, ⟨ho, hn⟩, wh, ⟨ao, an⟩, ⟨bo, bn⟩, v⟩ := s
  have hT : textsOf ⟨k1, ⟨ho, hn⟩, wh, ⟨ao, an⟩, ⟨bo, bn⟩, v⟩ = [wh, v, ho, hn, ao, an, bo, bn] := rfl
  unfold lightS
  unfold St.val
  go_enter Tryz.func64, Tryz.ntmps64
  go_wp2
  have hrow : ∀ k, (h : k < (textsOf ⟨k1, ⟨ho, hn⟩, wh, ⟨ao, an⟩, ⟨bo, bn⟩, v⟩).length) → ((w.alloc (.cells #[.int .i64 k1, .string ho, .string hn, .string wh, .string ao, .string an, .string bo, .string bn, .string v] 55)).alloc (.cells #[.string wh, .string v, .string ho, .string hn, .string ao, .string an, .string bo, .string bn] 9)).cell? ⟨w.heap.size + 1, k, none⟩ = some (.string (textsOf ⟨k1, ⟨ho, hn⟩, wh, ⟨ao, an⟩, ⟨bo, bn⟩, v⟩)[k]) := fun k h => by
    have := Lib.cell_of_heap (heap_alloc_new (w.alloc (.cells #[.int .i64 k1, .string ho, .string hn, .string wh, .string ao, .string an, .string bo, .string bn, .string v] 55)) (.cells #[.string wh, .string v, .string ho, .string hn, .string ao, .string an, .string bo, .string bn] 9)) k
    rw [World.size_alloc] at this
    rw [this]
    match k, h with
    | 0, _ => rfl
    | 1, _ => rfl
    | 2, _ => rfl
    | 3, _ => rfl
    | 4, _ => rfl
    | 5, _ => rfl
    | 6, _ => rfl
    | 7, _ => rfl
  clear hT
  have Hrow := Lib.hid hrow
  have Hl := Lib.hid hl
  clear hrow hl
  generalize hE : textsOf ⟨k1, ⟨ho, hn⟩, wh, ⟨ao, an⟩, ⟨bo, bn⟩, v⟩ = l at *
  have HE := Lib.hid hE
  clear hE
  go_loop [29] (fun i => ∃ k : Nat, k ≤ 8 ∧ i = .int .i64 k ∧ Hid (∀ j, (h : j < l.length) → j < k → l[j].size ≤ 40)) (fun i => 8 - (intOf i).toNat)
  case atStart => exact ⟨0, by omega, rfl, Lib.hid fun j _ hj => by omega⟩
  case round =>
    obtain ⟨k, hk, rfl, hall⟩ := hrel
    by_cases hlt : k < 8
    · have hkl : k < l.length := by rw [Hl.out]; exact hlt
      have hc := Hrow.out k hkl
      have p1 : (0 : Int) ≤ k := by omega
      have p2 : (k : Int) < 8 := by omega
      by_cases h40 : l[k].size ≤ 40
      · have hnext : Hid (∀ j, (h : j < l.length) → j < k + 1 → l[j].size ≤ 40) := Lib.hid fun j h hj => by
          by_cases e : j = k
          · subst e; exact h40
          · exact hall.out j h (by omega)
        clear hall
        go_wp2_with fail
        go_round
        case rel => exact ⟨k + 1, by omega, by go_num, hnext⟩
        case measure => simp [intOf]; omega
      · have hf := Lib.hid (light_no hkl h40)
        have h41 : 40 < l[k].size := by omega
        clear hall h40
        go_wp2_with fail
        go_ret
        exact ⟨ret_bool (by rw [HE.out]; exact hf.out.symm), ((Grew.refl _).alloc _).alloc _⟩
    · have hf := Lib.hid (light_yes (fun j h => hall.out j h (by rw [Hl.out] at h; omega)))
      clear hall
      go_wp2_with fail
      go_ret
      exact ⟨ret_bool (by rw [HE.out]; exact hf.out.symm), ((Grew.refl _).alloc _).alloc _⟩
end Go.Proofs.YtcmdiomjhideiaaGreatDoor.TblM
