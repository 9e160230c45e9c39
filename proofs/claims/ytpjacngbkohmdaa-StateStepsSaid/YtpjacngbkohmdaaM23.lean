/- state: About, MayCome, MayGo, Added, Gone, Reaches, by contract. -/
import Derived.Test.YtpjacngbkohmdaaM22
import Derived.Test.YtpjacngbkohmdaaM21
import Derived.Test.YtpjacngbkohmdaaM11
import Derived.Laws.EntriesVeiled
import Derived.Test.YtpjacngbkohmdaaM05
import Derived.Test.YtpjacngbkohmdaaM04
import Derived.Test.YtpjacngbkohmdaaM09
import Derived.Deep.LoopGhost
import Derived.OwnWalk
import Derived.WalkSpells
namespace Go.Proofs.Ytpjacngbkohmdaa.StG
set_option linter.unusedVariables false
set_option linter.unusedSimpArgs false
open Go.Shelf Go.RowKit Go.Sort Go.Lib Go.Proofs Go.Proofs.Ytpjacngbkohmdaa.Plain Go.Proofs.Ytpjacngbkohmdaa.SynP Go.Proofs.Ytpjacngbkohmdaa.Grown Go.Proofs.Ytpjacngbkohmdaa.SynC Go.Proofs.Ytpjacngbkohmdaa.SynD Go.Proofs.Ytpjacngbkohmdaa.SynD2 Go.Proofs.Ytpjacngbkohmdaa.SynD3 Go.Proofs.Ytpjacngbkohmdaa.QryP Go.Proofs.Ytpjacngbkohmdaa.PolA Go.Proofs.Ytpjacngbkohmdaa.PolE Go.Proofs.Ytpjacngbkohmdaa.StA Go.Proofs.Ytpjacngbkohmdaa.StB Go.Proofs.Ytpjacngbkohmdaa.StC Go.Proofs.Ytpjacngbkohmdaa.StD Go.Proofs.Ytpjacngbkohmdaa.StE Go.Proofs.Ytpjacngbkohmdaa.StF
set_option linter.unusedVariables false
set_option linter.unusedSimpArgs false
def come (p : Py) (s : St) : Bool := s.right && !decide (s.head ∈ p.grow)
def go_ (p : Py) (s : St) : Bool := !decide (s.head ∈ p.shrink)
def reach (p : Py) (C : List St) : Bool := (C.all fun s => (s.right && decide (s ∈ p.stmts)) || come p s) && ((sortL cmpS [] p.stmts).filter fun s => !decide (s ∈ C)).all (go_ p)
/-- Two boxes: of a policy, of a statement. -/
theorem two (w : World) (A1 A2 A3 A4 : Option Addr) (c1 c2 c3 c4 : Nat) (S : List St) (G H : List Rl) (Q : List Qy) (k1 : Int) (ho hn wh ao an bo bn v1 : ByteArray) :
    Below w.heap.size w ((w.alloc (.cells #[.slice A1 S.length c1, .slice A2 G.length c2, .slice A3 H.length c3, .slice A4 Q.length c4] 40)).alloc (.cells #[.int .i64 k1, .string ho, .string hn, .string wh, .string ao, .string an, .string bo, .string bn, .string v1] 26)) ∧
    (∀ o, ((w.alloc (.cells #[.slice A1 S.length c1, .slice A2 G.length c2, .slice A3 H.length c3, .slice A4 Q.length c4] 40)).alloc (.cells #[.int .i64 k1, .string ho, .string hn, .string wh, .string ao, .string an, .string bo, .string bn, .string v1] 26)).cell? ⟨w.heap.size, o, none⟩ = (#[.slice A1 S.length c1, .slice A2 G.length c2, .slice A3 H.length c3, .slice A4 Q.length c4] : Array Value)[o]?) ∧
    (∀ o, ((w.alloc (.cells #[.slice A1 S.length c1, .slice A2 G.length c2, .slice A3 H.length c3, .slice A4 Q.length c4] 40)).alloc (.cells #[.int .i64 k1, .string ho, .string hn, .string wh, .string ao, .string an, .string bo, .string bn, .string v1] 26)).cell? ⟨w.heap.size + 1, o, none⟩ = (#[.int .i64 k1, .string ho, .string hn, .string wh, .string ao, .string an, .string bo, .string bn, .string v1] : Array Value)[o]?) :=
  ⟨((Below.refl _ _).alloc (Nat.le_refl _) _).alloc (by simp) _, fun o => Lib.cell_of_heap (heap_alloc2_old w _ _) o, fun o => Lib.cell_of_heap (heap_alloc2_new w _ _) o⟩
set_option maxRecDepth 100000 in
theorem mayCome (p : Py) (A1 A2 A3 A4 : Option Addr) (c1 c2 c3 c4 : Nat) (s : St) (w : World) (hg : p.grow.length ≤ 10000) (hA : RG w A2 p.grow) (hf : s.fit) :
    Calls Try.prog 26 #[p.val A1 A2 A3 A4 c1 c2 c3 c4, s.val] w fun e w' => e = .returned (.bool (come p s)) ∧ Below w.heap.size w w' := by
  obtain ⟨S, G, H, Q⟩ := p
  have HRi := Lib.hid (fun w' => Syn7.right s w' hf)
  have HHa := Lib.hid (fun w' (h : RG w' A2 G) => PolK.has_ A2 c2 G s.head w' hg h)
  unfold come
  generalize s.right = r at *
  obtain ⟨k1, ⟨ho, hn⟩, wh, ⟨ao, an⟩, ⟨bo, bn⟩, v1⟩ := s
  unfold St.val at HRi ⊢
  unfold Rl.val at HHa
  dsimp only at HRi HHa ⊢
  generalize decide ((⟨ho, hn⟩ : Rl) ∈ G) = m at *
  obtain ⟨hbX, d1, d2⟩ := two w A1 A2 A3 A4 c1 c2 c3 c4 S G H Q k1 ho hn wh ao an bo bn v1
  have HAX := Lib.hid (hA.below hbX)
  have HB := Lib.hid hbX
  clear hbX hA hf
  show Calls _ _ #[.agg #[.slice A1 S.length c1, .slice A2 G.length c2, .slice A3 H.length c3, .slice A4 Q.length c4], _] _ _
  go_enter Try.func26, Try.ntmps26
  go_upto_region 1 with fail
  have hz : ((w.alloc (.cells #[.slice A1 S.length c1, .slice A2 G.length c2, .slice A3 H.length c3, .slice A4 Q.length c4] 40)).alloc (.cells #[.int .i64 k1, .string ho, .string hn, .string wh, .string ao, .string an, .string bo, .string bn, .string v1] 26)).heap.size = w.heap.size + 2 := by simp
  obtain ⟨b1, hb1⟩ : ∃ b1, w.heap.size = b1 := ⟨_, rfl⟩
  rw [hb1] at d1 hz
  simp only [hb1] at d2 ⊢
  obtain ⟨b2, hb2⟩ : ∃ b2, b1 + 1 = b2 := ⟨_, rfl⟩
  rw [hb2] at d2
  simp only [hb2] at ⊢
  generalize (w.alloc (.cells #[.slice A1 S.length c1, .slice A2 G.length c2, .slice A3 H.length c3, .slice A4 Q.length c4] 40)).alloc (.cells #[.int .i64 k1, .string ho, .string hn, .string wh, .string ao, .string an, .string bo, .string bn, .string v1] 26) = w0 at *
  have HD := Lib.hid (fun w' (hb : Below w0.heap.size w0 w') => (⟨fun o => (hb.cell (p := ⟨b1, o, none⟩) (by show b1 < _; omega)).trans (d1 o), fun o => (hb.cell (p := ⟨b2, o, none⟩) (by show b2 < _; omega)).trans (d2 o)⟩ : (∀ o, w'.cell? ⟨b1, o, none⟩ = (#[.slice A1 S.length c1, .slice A2 G.length c2, .slice A3 H.length c3, .slice A4 Q.length c4] : Array Value)[o]?) ∧ ∀ o, w'.cell? ⟨b2, o, none⟩ = (#[.int .i64 k1, .string ho, .string hn, .string wh, .string ao, .string an, .string bo, .string bn, .string v1] : Array Value)[o]?))
  clear hb1 hb2 hz
  go_wp2_with fail
  refine (HRi.out _).mono ?_
  rintro e w1 ⟨rfl, hg1⟩
  have HB1 := Lib.hid hg1.below
  obtain ⟨e1, e2⟩ := HD.out w1 hg1.below
  clear hg1 d1 d2 HRi HD
  cases r with
  | false =>
    go_wp2_with fail
    go_ret
    exact ⟨rfl, nx HB.out HB1.out⟩
  | true =>
    have HH1 := Lib.hid (HHa.out w1 (HAX.out.below HB1.out))
    clear HHa HAX
    go_wp2_with fail
    refine HH1.out.mono ?_
    rintro e w2 ⟨rfl, hb2⟩
    have HB2 := Lib.hid (nx HB.out (nx HB1.out hb2))
    clear hb2 e1 e2 HH1
    go_wp2_with fail
    go_ret
    exact ⟨ret_bool (by first | rfl | simp), HB2.out⟩
set_option maxRecDepth 100000 in
theorem mayGo (p : Py) (A1 A2 A3 A4 : Option Addr) (c1 c2 c3 c4 : Nat) (s : St) (w : World) (hg : p.shrink.length ≤ 10000) (hA : RG w A3 p.shrink) :
    Calls Try.prog 28 #[p.val A1 A2 A3 A4 c1 c2 c3 c4, s.val] w fun e w' => e = .returned (.bool (go_ p s)) ∧ Below w.heap.size w w' := by
  obtain ⟨S, G, H, Q⟩ := p
  have HHa := Lib.hid (fun w' (h : RG w' A3 H) => PolK.has_ A3 c3 H s.head w' hg h)
  unfold go_
  obtain ⟨k1, ⟨ho, hn⟩, wh, ⟨ao, an⟩, ⟨bo, bn⟩, v1⟩ := s
  unfold St.val
  unfold Rl.val at HHa
  dsimp only at HHa ⊢
  generalize decide ((⟨ho, hn⟩ : Rl) ∈ H) = m at *
  obtain ⟨hbX, d1, d2⟩ := two w A1 A2 A3 A4 c1 c2 c3 c4 S G H Q k1 ho hn wh ao an bo bn v1
  have HH1 := Lib.hid (HHa.out _ (hA.below hbX))
  have HB := Lib.hid hbX
  clear hbX hA HHa
  show Calls _ _ #[.agg #[.slice A1 S.length c1, .slice A2 G.length c2, .slice A3 H.length c3, .slice A4 Q.length c4], _] _ _
  go_enter Try.func28, Try.ntmps28
  go_upto_region 1 with fail
  generalize (w.alloc (.cells #[.slice A1 S.length c1, .slice A2 G.length c2, .slice A3 H.length c3, .slice A4 Q.length c4] 40)).alloc (.cells #[.int .i64 k1, .string ho, .string hn, .string wh, .string ao, .string an, .string bo, .string bn, .string v1] 26) = w0 at *
  go_wp2_with fail
  refine HH1.out.mono ?_
  rintro e w2 ⟨rfl, hb2⟩
  have HB2 := Lib.hid (nx HB.out hb2)
  clear hb2 d1 d2 HH1
  go_wp2_with fail
  go_ret
  exact ⟨rfl, HB2.out⟩
/-- One box, of a policy. -/
theorem one (w : World) (A1 A2 A3 A4 : Option Addr) (c1 c2 c3 c4 : Nat) (S : List St) (G H : List Rl) (Q : List Qy) :
    Below w.heap.size w (w.alloc (.cells #[.slice A1 S.length c1, .slice A2 G.length c2, .slice A3 H.length c3, .slice A4 Q.length c4] 40)) ∧ (∀ o, (w.alloc (.cells #[.slice A1 S.length c1, .slice A2 G.length c2, .slice A3 H.length c3, .slice A4 Q.length c4] 40)).cell? ⟨w.heap.size, o, none⟩ = (#[.slice A1 S.length c1, .slice A2 G.length c2, .slice A3 H.length c3, .slice A4 Q.length c4] : Array Value)[o]?) :=
  ⟨below_alloc w _, fun o => Lib.cell_of_heap (heap_alloc_new w _) o⟩
set_option maxRecDepth 100000 in
theorem added (p : Py) (A1 A2 A3 A4 B : Option Addr) (c1 c2 c3 c4 cb : Nat) (C : List St) (w : World) (hS : p.stmts.length ≤ 1000) (hC : C.length ≤ 1000) (hA : SG w A1 p.stmts) (hB : SG w B C) (hf : ∀ s ∈ C, s.fit) :
    Calls Try.prog 24 #[p.val A1 A2 A3 A4 c1 c2 c3 c4, .slice B C.length cb] w (OwnPost ((sortL cmpS [] C).filter fun s => !decide (s ∈ p.stmts)) w) := by
  obtain ⟨S, G, H, Q⟩ := p
  obtain ⟨hbX, d1⟩ := one w A1 A2 A3 A4 c1 c2 c3 c4 S G H Q
  have HM := Lib.hid (minus B A1 cb c1 C S _ hC hS (hB.below hbX) (hA.below hbX) hf)
  have HB := Lib.hid hbX
  dsimp only at HM hA hf ⊢
  generalize ((sortL cmpS [] C).filter fun s => !decide (s ∈ S)) = R at *
  clear hbX hA hB hf
  show Calls _ _ #[.agg #[.slice A1 S.length c1, .slice A2 G.length c2, .slice A3 H.length c3, .slice A4 Q.length c4], _] _ _
  go_enter Try.func24, Try.ntmps24
  go_upto_region 1 with fail
  generalize w.alloc (.cells #[.slice A1 S.length c1, .slice A2 G.length c2, .slice A3 H.length c3, .slice A4 Q.length c4] 40) = w0 at *
  go_wp2_with fail
  refine HM.out.mono ?_
  intro e w1 hp
  obtain ⟨v, rfl, ho, hb1⟩ := hp
  have HE : Hid (OwnPost R w (.returned v) w1) := Lib.hid (OwnPost.nx ⟨v, rfl, ho, hb1⟩ HB.out)
  obtain ⟨B, cb, rfl, _⟩ := ho.form
  clear ho hb1 HM d1
  go_wp2_with fail
  go_ret
  exact HE.out
set_option maxRecDepth 100000 in
theorem gone (p : Py) (A1 A2 A3 A4 B : Option Addr) (c1 c2 c3 c4 cb : Nat) (C : List St) (w : World) (hS : p.stmts.length ≤ 1000) (hC : C.length ≤ 1000) (hA : SG w A1 p.stmts) (hB : SG w B C) (hf : ∀ s ∈ p.stmts, s.fit) :
    Calls Try.prog 25 #[p.val A1 A2 A3 A4 c1 c2 c3 c4, .slice B C.length cb] w (OwnPost ((sortL cmpS [] p.stmts).filter fun s => !decide (s ∈ C)) w) := by
  obtain ⟨S, G, H, Q⟩ := p
  obtain ⟨hbX, d1⟩ := one w A1 A2 A3 A4 c1 c2 c3 c4 S G H Q
  have HM := Lib.hid (minus A1 B c1 cb S C _ hS hC (hA.below hbX) (hB.below hbX) hf)
  have HB := Lib.hid hbX
  dsimp only at HM hA hf ⊢
  generalize ((sortL cmpS [] S).filter fun s => !decide (s ∈ C)) = R at *
  clear hbX hA hB hf
  show Calls _ _ #[.agg #[.slice A1 S.length c1, .slice A2 G.length c2, .slice A3 H.length c3, .slice A4 Q.length c4], _] _ _
  go_enter Try.func25, Try.ntmps25
  go_upto_region 1 with fail
  generalize w.alloc (.cells #[.slice A1 S.length c1, .slice A2 G.length c2, .slice A3 H.length c3, .slice A4 Q.length c4] 40) = w0 at *
  go_wp2_with fail
  refine HM.out.mono ?_
  intro e w1 hp
  obtain ⟨v, rfl, ho, hb1⟩ := hp
  have HE : Hid (OwnPost R w (.returned v) w1) := Lib.hid (OwnPost.nx ⟨v, rfl, ho, hb1⟩ HB.out)
  obtain ⟨B, cb, rfl, _⟩ := ho.form
  clear ho hb1 HM d1
  go_wp2_with fail
  go_ret
  exact HE.out
theorem enter_about : ∀ args w, (callFunc 45 args).run Try.prog w = .ok (.enter 45 args) w := enters_of Try.func45 (by kernel_rfl) rfl
set_option maxRecDepth 100000 in
theorem about1 (o1 n1 : ByteArray) (b : Nat) (x : St) (w : World) (hb : ∀ o, w.cell? ⟨b, o, none⟩ = (#[.string o1, .string n1] : Array Value)[o]?) :
    Calls Try.prog 45 #[x.val, .pointer (some ⟨b, 0, none⟩)] w fun e w' => e = .returned (.bool (decide (x.head = ⟨o1, n1⟩))) ∧ Below w.heap.size w w' := by
  obtain ⟨k1, ⟨ho, hn⟩, wh, ⟨ao, an⟩, ⟨bo, bn⟩, v1⟩ := x
  have lb := World.block_lt_of_cell? _ _ (hb 0)
  simp only at lb
  have hbX := below_alloc w (.cells #[.int .i64 k1, .string ho, .string hn, .string wh, .string ao, .string an, .string bo, .string bn, .string v1] 26)
  have c1 := fun o => (hbX.cell (p := ⟨b, o, none⟩) lb).trans (hb o)
  have c2 := fun o => Lib.cell_of_heap (heap_alloc_new w (.cells #[.int .i64 k1, .string ho, .string hn, .string wh, .string ao, .string an, .string bo, .string bn, .string v1] 26)) o
  have HB := Lib.hid hbX
  have hq := fun w => SynE.eqR ho hn o1 n1 w
  unfold St.val
  dsimp only
  generalize decide ((⟨ho, hn⟩ : Rl) = ⟨o1, n1⟩) = ans at *
  clear hbX hb lb
  go_enter Try.func45, Try.ntmps45
  go_upto_region 1 with fail
  generalize w.alloc (.cells #[.int .i64 k1, .string ho, .string hn, .string wh, .string ao, .string an, .string bo, .string bn, .string v1] 26) = w0 at *
  go_wp2_with fail
  go_ret
  exact ⟨rfl, HB.out⟩
set_option maxRecDepth 100000 in
theorem about (A : Option Addr) (ca : Nat) (L : List St) (r : Rl) (w : World) (hL : L.length ≤ 1000) (hA : SG w A L) (hf : ∀ s ∈ L, s.fit) :
    Calls Try.prog 20 #[.slice A L.length ca, r.val] w (OwnPost ((sortL cmpS [] L).filter fun s => decide (s.head = r)) w) := by
  obtain ⟨o1, n1⟩ := r
  have hbX := below_alloc w (.cells #[.string o1, .string n1] 24)
  have hX := heap_alloc_new w (.cells #[.string o1, .string n1] 24)
  have HP := Lib.hid (pick A ca L (.func (.func 45) #[] #[.pointer (some ⟨w.heap.size, 0, none⟩)]) (fun s => decide (s.head = ⟨o1, n1⟩)) _ hL (hA.below hbX) hf ⟨_, _, rfl, enter_about, fun w' hb s hs => about1 o1 n1 w.heap.size s w' (fun o => Lib.cell_of_heap ((hb.block w.heap.size (by simp)).trans hX) o)⟩)
  have HB := Lib.hid hbX
  generalize ((sortL cmpS [] L).filter fun s => decide (s.head = ⟨o1, n1⟩)) = R at *
  clear hbX hX hA hf
  show Calls _ _ #[_, .agg #[.string o1, .string n1]] _ _
  go_enter Try.func20, Try.ntmps20
  go_wp2_with fail
  refine HP.out.mono ?_
  intro e w1 hp
  obtain ⟨v, rfl, ho, hb1⟩ := hp
  have HE : Hid (OwnPost R w (.returned v) w1) := Lib.hid (OwnPost.nx ⟨v, rfl, ho, hb1⟩ HB.out)
  obtain ⟨B, cb, rfl, _⟩ := ho.form
  clear ho hb1 HP
  go_wp2_with fail
  go_ret
  exact HE.out
/-- A policy in a box. -/
def PBox (w : World) (b : Nat) (p : Py) : Prop := ∃ A1 A2 A3 A4 c1 c2 c3 c4, w.heap[b]? = some (.cells #[.slice A1 p.stmts.length c1, .slice A2 p.grow.length c2, .slice A3 p.shrink.length c3, .slice A4 p.asks.length c4] 40 (0, 0)) ∧ RG w A2 p.grow ∧ RG w A3 p.shrink
theorem PBox.below {w w' : World} {b : Nat} {p : Py} (h : PBox w b p) (hb : Below w.heap.size w w') : PBox w' b p := by
  obtain ⟨A1, A2, A3, A4, c1, c2, c3, c4, h1, h2, h3⟩ := h
  exact ⟨A1, A2, A3, A4, c1, c2, c3, c4, (hb.block b (Array.getElem?_eq_some_iff.1 h1).1).trans h1, h2.below hb, h3.below hb⟩
theorem enter_r1 : ∀ args w, (callFunc 47 args).run Try.prog w = .ok (.enter 47 args) w := enters_of Try.func47 (by kernel_rfl) rfl
theorem enter_r2 : ∀ args w, (callFunc 48 args).run Try.prog w = .ok (.enter 48 args) w := enters_of Try.func48 (by kernel_rfl) rfl
theorem enter_r3 : ∀ args w, (callFunc 49 args).run Try.prog w = .ok (.enter 49 args) w := enters_of Try.func49 (by kernel_rfl) rfl
set_option maxRecDepth 100000 in
theorem r1 {B : Nat} {w : World} {v : Value} {p : St → Bool} (h : Such B w v p) (hB : B ≤ w.heap.size) (b : Nat) (hb : w.cell? ⟨b, 0, none⟩ = some v) (s : St) (hs : s.fit) :
    Calls Try.prog 47 #[s.val, .pointer (some ⟨b, 0, none⟩)] w fun e wx => e = .returned (.bool (s.right && p s)) ∧ Below w.heap.size w wx := by
  obtain ⟨F, caps, rfl, eg, hf⟩ := h
  have lb := World.block_lt_of_cell? _ _ hb
  simp only at lb
  have HF := Lib.hid (fun w' (hb : Below w.heap.size w w') => hf w' (hb.mono hB) s hs)
  have HRi := Lib.hid (fun w' => Syn7.right s w' hs)
  generalize p s = ans at *
  generalize s.right = r at *
  obtain ⟨k1, ⟨ho, hn⟩, wh, ⟨ao, an⟩, ⟨bo, bn⟩, v1⟩ := s
  unfold St.val at HF HRi ⊢
  simp only at HF HRi ⊢
  have hbX := below_alloc w (.cells #[.int .i64 k1, .string ho, .string hn, .string wh, .string ao, .string an, .string bo, .string bn, .string v1] 26)
  have c1 := (hbX.cell (p := ⟨b, 0, none⟩) lb).trans hb
  have c2 := fun o => Lib.cell_of_heap (heap_alloc_new w (.cells #[.int .i64 k1, .string ho, .string hn, .string wh, .string ao, .string an, .string bo, .string bn, .string v1] 26)) o
  have HB := Lib.hid hbX
  have hz : (w.alloc (.cells #[.int .i64 k1, .string ho, .string hn, .string wh, .string ao, .string an, .string bo, .string bn, .string v1] 26)).heap.size = w.heap.size + 1 := by simp
  clear hbX hb hf hs
  go_enter Try.func47, Try.ntmps47
  go_upto_region 1 with fail
  obtain ⟨b2, hb2⟩ : ∃ b2, w.heap.size = b2 := ⟨_, rfl⟩
  rw [hb2] at hz lb
  simp only [hb2] at c2 ⊢
  generalize w.alloc (.cells #[.int .i64 k1, .string ho, .string hn, .string wh, .string ao, .string an, .string bo, .string bn, .string v1] 26) = w0 at *
  have HD := Lib.hid (fun w' (hb : Below w0.heap.size w0 w') => (⟨(hb.cell (p := ⟨b, 0, none⟩) (by show b < _; omega)).trans c1, fun o => (hb.cell (p := ⟨b2, o, none⟩) (by show b2 < _; omega)).trans (c2 o)⟩ : w'.cell? ⟨b, 0, none⟩ = some (.func (.func F) #[] caps) ∧ ∀ o, w'.cell? ⟨b2, o, none⟩ = (#[.int .i64 k1, .string ho, .string hn, .string wh, .string ao, .string an, .string bo, .string bn, .string v1] : Array Value)[o]?))
  clear hz lb hb2
  go_wp2_with fail
  refine (HRi.out _).mono ?_
  rintro e w1 ⟨rfl, hg1⟩
  have HB1 := Lib.hid hg1.below
  obtain ⟨e1, e2⟩ := HD.out w1 hg1.below
  clear hg1 c1 c2 HRi HD
  cases r with
  | false =>
    go_wp2_with fail
    go_ret
    exact ⟨rfl, nx HB.out HB1.out⟩
  | true =>
    have hcall := HF.out w1 (nx HB.out HB1.out)
    go_wp2_with (go_at_fn F; refine hcall.mono ?_; rintro e w2 ⟨rfl, hb2⟩)
    go_ret
    exact ⟨ret_bool (by first | rfl | simp), nx HB.out (nx HB1.out hb2)⟩
set_option maxRecDepth 100000 in
theorem r2 {B : Nat} {w : World} {v : Value} {q : St → Bool} {p : Py} (h : Such B w v q) (hB : B ≤ w.heap.size) (b bp : Nat) (hb : w.cell? ⟨b, 0, none⟩ = some v) (hp : PBox w bp p) (hg : p.grow.length ≤ 10000) (s : St) (hs : s.fit) :
    Calls Try.prog 48 #[s.val, .pointer (some ⟨b, 0, none⟩), .pointer (some ⟨bp, 0, none⟩)] w fun e wx => e = .returned (.bool (q s || come p s)) ∧ Below w.heap.size w wx := by
  obtain ⟨F, caps, rfl, eg, hf⟩ := h
  obtain ⟨A1, A2, A3, A4, c1, c2, c3, c4, hpb, hg2, hg3⟩ := hp
  have lb := World.block_lt_of_cell? _ _ hb
  simp only at lb
  have lp := (Array.getElem?_eq_some_iff.1 hpb).1
  have HF := Lib.hid (fun w' (hb : Below w.heap.size w w') => hf w' (hb.mono hB) s hs)
  have HMC := Lib.hid (fun w' (hb : Below w.heap.size w w') => mayCome p A1 A2 A3 A4 c1 c2 c3 c4 s w' hg (hg2.below hb) hs)
  unfold Py.val at HMC
  generalize q s = ans at *
  generalize come p s = cm at *
  obtain ⟨S, G, H, Q⟩ := p
  obtain ⟨k1, ⟨ho, hn⟩, wh, ⟨ao, an⟩, ⟨bo, bn⟩, v1⟩ := s
  unfold St.val at HF HMC ⊢
  dsimp only at HF HMC hpb ⊢
  have hbX := below_alloc w (.cells #[.int .i64 k1, .string ho, .string hn, .string wh, .string ao, .string an, .string bo, .string bn, .string v1] 26)
  have d1 := (hbX.cell (p := ⟨b, 0, none⟩) lb).trans hb
  have d2 := fun o => Lib.cell_of_heap (heap_alloc_new w (.cells #[.int .i64 k1, .string ho, .string hn, .string wh, .string ao, .string an, .string bo, .string bn, .string v1] 26)) o
  have d3 := fun o => Lib.cell_of_heap ((hbX.block bp lp).trans hpb) o
  have HB := Lib.hid hbX
  have hz : (w.alloc (.cells #[.int .i64 k1, .string ho, .string hn, .string wh, .string ao, .string an, .string bo, .string bn, .string v1] 26)).heap.size = w.heap.size + 1 := by simp
  have hcall := HF.out _ hbX
  clear hbX hb hf hs hpb hg2 hg3 HF
  go_enter Try.func48, Try.ntmps48
  go_upto_region 1 with fail
  obtain ⟨b2, hb2⟩ : ∃ b2, w.heap.size = b2 := ⟨_, rfl⟩
  rw [hb2] at hz lb lp
  simp only [hb2] at d2 ⊢
  generalize w.alloc (.cells #[.int .i64 k1, .string ho, .string hn, .string wh, .string ao, .string an, .string bo, .string bn, .string v1] 26) = w0 at *
  have HD := Lib.hid (fun w' (hb : Below w0.heap.size w0 w') => (⟨fun o => (hb.cell (p := ⟨bp, o, none⟩) (by show bp < _; omega)).trans (d3 o), fun o => (hb.cell (p := ⟨b2, o, none⟩) (by show b2 < _; omega)).trans (d2 o)⟩ : (∀ o, w'.cell? ⟨bp, o, none⟩ = (#[.slice A1 S.length c1, .slice A2 G.length c2, .slice A3 H.length c3, .slice A4 Q.length c4] : Array Value)[o]?) ∧ ∀ o, w'.cell? ⟨b2, o, none⟩ = (#[.int .i64 k1, .string ho, .string hn, .string wh, .string ao, .string an, .string bo, .string bn, .string v1] : Array Value)[o]?))
  clear hz lb lp hb2
  cases ans with
  | true =>
    go_wp2_with (go_at_fn F; refine hcall.mono ?_; rintro e w1 ⟨rfl, hb1⟩)
    go_ret
    exact ⟨rfl, nx HB.out hb1⟩
  | false =>
    go_wp2_with (go_at_fn F; refine hcall.mono ?_; rintro e w1 ⟨rfl, hb1⟩; have HB1 := Lib.hid (nx HB.out hb1); have HM1 := Lib.hid (HMC.out w1 HB1.out); obtain ⟨e1, e2⟩ := HD.out w1 hb1; clear hb1 d1 d2 d3 HD HMC; go_wp2_with fail; refine HM1.out.mono ?_; rintro e w2 ⟨rfl, hb2⟩)
    go_ret
    exact ⟨ret_bool (by first | rfl | simp), nx HB1.out hb2⟩
set_option maxRecDepth 100000 in
theorem r3 {w : World} {p : Py} (bp : Nat) (hp : PBox w bp p) (hg : p.shrink.length ≤ 10000) (s : St) :
    Calls Try.prog 49 #[s.val, .pointer (some ⟨bp, 0, none⟩)] w fun e wx => e = .returned (.bool (go_ p s)) ∧ Below w.heap.size w wx := by
  obtain ⟨A1, A2, A3, A4, c1, c2, c3, c4, hpb, hg2, hg3⟩ := hp
  have lp := (Array.getElem?_eq_some_iff.1 hpb).1
  have HMC := Lib.hid (fun w' (hb : Below w.heap.size w w') => mayGo p A1 A2 A3 A4 c1 c2 c3 c4 s w' hg (hg3.below hb))
  unfold Py.val at HMC
  generalize go_ p s = cm at *
  obtain ⟨S, G, H, Q⟩ := p
  obtain ⟨k1, ⟨ho, hn⟩, wh, ⟨ao, an⟩, ⟨bo, bn⟩, v1⟩ := s
  unfold St.val at HMC ⊢
  dsimp only at HMC hpb ⊢
  have hbX := below_alloc w (.cells #[.int .i64 k1, .string ho, .string hn, .string wh, .string ao, .string an, .string bo, .string bn, .string v1] 26)
  have d2 := fun o => Lib.cell_of_heap (heap_alloc_new w (.cells #[.int .i64 k1, .string ho, .string hn, .string wh, .string ao, .string an, .string bo, .string bn, .string v1] 26)) o
  have d3 := fun o => Lib.cell_of_heap ((hbX.block bp lp).trans hpb) o
  have HB := Lib.hid hbX
  have HM1 := Lib.hid (HMC.out _ hbX)
  clear hbX hpb hg2 hg3 HMC lp
  go_enter Try.func49, Try.ntmps49
  go_wp2_with fail
  refine HM1.out.mono ?_
  rintro e w2 ⟨rfl, hb2⟩
  have HB2 := Lib.hid (nx HB.out hb2)
  clear hb2 d2 d3 HM1
  go_wp2_with fail
  go_ret
  exact ⟨rfl, HB2.out⟩
end Go.Proofs.Ytpjacngbkohmdaa.StG
/- Reaches, by contract; the document's Has at any row; the law's Light of a row. -/
namespace Go.Proofs.Ytpjacngbkohmdaa.StH
set_option linter.unusedVariables false
set_option linter.unusedSimpArgs false
open Go.Shelf Go.RowKit Go.Sort Go.Lib Go.Proofs Go.Proofs.Ytpjacngbkohmdaa.Plain Go.Proofs.Ytpjacngbkohmdaa.SynP Go.Proofs.Ytpjacngbkohmdaa.Grown Go.Proofs.Ytpjacngbkohmdaa.SynC Go.Proofs.Ytpjacngbkohmdaa.SynD Go.Proofs.Ytpjacngbkohmdaa.SynD2 Go.Proofs.Ytpjacngbkohmdaa.SynD3 Go.Proofs.Ytpjacngbkohmdaa.QryP Go.Proofs.Ytpjacngbkohmdaa.PolA Go.Proofs.Ytpjacngbkohmdaa.PolE Go.Proofs.Ytpjacngbkohmdaa.StA Go.Proofs.Ytpjacngbkohmdaa.StB Go.Proofs.Ytpjacngbkohmdaa.StC Go.Proofs.Ytpjacngbkohmdaa.StD Go.Proofs.Ytpjacngbkohmdaa.StE Go.Proofs.Ytpjacngbkohmdaa.StF Go.Proofs.Ytpjacngbkohmdaa.StG
set_option linter.unusedVariables false
set_option linter.unusedSimpArgs false
set_option maxHeartbeats 1000000 in
set_option maxRecDepth 100000 in
theorem hasG (A : Option Addr) (ca : Nat) (L : List St) (s : St) (w : World) (hL : L.length ≤ 1000) (hA : SG w A L) :
    Calls Try.prog 15 #[.slice A L.length ca, s.val] w fun e w' => e = .returned (.bool (decide (s ∈ L))) ∧ RowKit.Below w.heap.size w w' := by
  obtain ⟨k1, ⟨ho, hn⟩, wh, ⟨ao, an⟩, ⟨bo, bn⟩, v⟩ := s
  have hown : ∀ (wr : World), Below (w.heap.size + 1) (w.alloc (.cells #[.int .i64 k1, .string ho, .string hn, .string wh, .string ao, .string an, .string bo, .string bn, .string v] 26)) wr → wr.cell? ⟨w.heap.size, 0, none⟩ = some (.int .i64 k1) ∧ wr.cell? ⟨w.heap.size, 1, none⟩ = some (.string ho) ∧ wr.cell? ⟨w.heap.size, 2, none⟩ = some (.string hn) ∧ wr.cell? ⟨w.heap.size, 3, none⟩ = some (.string wh) ∧ wr.cell? ⟨w.heap.size, 4, none⟩ = some (.string ao) ∧ wr.cell? ⟨w.heap.size, 5, none⟩ = some (.string an) ∧ wr.cell? ⟨w.heap.size, 6, none⟩ = some (.string bo) ∧ wr.cell? ⟨w.heap.size, 7, none⟩ = some (.string bn) ∧ wr.cell? ⟨w.heap.size, 8, none⟩ = some (.string v) := fun wr hb => by
    refine ⟨?_, ?_, ?_, ?_, ?_, ?_, ?_, ?_, ?_⟩ <;> rw [hb.cell (by simp)] <;> rw [Lib.cell_of_heap (heap_alloc_new w _)] <;> rfl
  have HO := Lib.hid hown
  clear hown
  have HA := Lib.hid hA
  clear hA
  unfold St.val
  go_enter Try.func15, Try.ntmps15
  go_wp2_with fail
  go_loopw [9] (fun i wr => ∃ k : Nat, k ≤ L.length ∧ i = .int .i64 k ∧ Hid ((⟨k1, ⟨ho, hn⟩, wh, ⟨ao, an⟩, ⟨bo, bn⟩, v⟩ : St) ∉ L.take k) ∧ Below (w.heap.size + 1) (w.alloc (.cells #[.int .i64 k1, .string ho, .string hn, .string wh, .string ao, .string an, .string bo, .string bn, .string v] 26)) wr) (fun i _ => L.length - (intOf i).toNat)
  case atStart => exact ⟨0, by omega, rfl, Lib.hid (by simp), Below.refl _ _⟩
  case round =>
    obtain ⟨k, hk, rfl, hrun, hbel⟩ := hrel
    have hb0 : Below w.heap.size w wr := ((Below.refl w.heap.size w).alloc (Nat.le_refl _) _).trans (hbel.mono (by omega))
    have hsz : w.heap.size + 1 ≤ wr.heap.size := by have := hbel.size; simpa using this
    by_cases hlt : k < L.length
    · obtain ⟨g1, o1, rfl, hg1, h1⟩ := (HA.out.below hb0) (by omega)
      obtain ⟨a0, a1, a2, a3, a4, a5, a6, a7, a8⟩ := h1 k hlt
      obtain ⟨b0, b1, b2, b3, b4, b5, b6, b7, b8⟩ := HO.out _ (hbel.alloc hsz (.cells #[.int .i64 L[k].kind, .string L[k].head.owner, .string L[k].head.name, .string L[k].who, .string L[k].a.owner, .string L[k].a.name, .string L[k].b.owner, .string L[k].b.name, .string L[k].via] 26))
      have p1 : (0 : Int) ≤ k := by omega
      have p2 : (k : Int) < L.length := by omega
      clear h1
      by_cases he : L[k] = (⟨k1, ⟨ho, hn⟩, wh, ⟨ao, an⟩, ⟨bo, bn⟩, v⟩ : St)
      · have hfin : Hid (decide ((⟨k1, ⟨ho, hn⟩, wh, ⟨ao, an⟩, ⟨bo, bn⟩, v⟩ : St) ∈ L) = true) := Lib.hid (decide_eq_true (he ▸ List.getElem_mem hlt))
        have hq := fun w => SynE.eqS L[k].kind L[k].head.owner L[k].head.name L[k].who L[k].a.owner L[k].a.name L[k].b.owner L[k].b.name L[k].via k1 ho hn wh ao an bo bn v w
        rw [decide_eq_true (p := (⟨L[k].kind, ⟨L[k].head.owner, L[k].head.name⟩, L[k].who, ⟨L[k].a.owner, L[k].a.name⟩, ⟨L[k].b.owner, L[k].b.name⟩, L[k].via⟩ : St) = ⟨k1, ⟨ho, hn⟩, wh, ⟨ao, an⟩, ⟨bo, bn⟩, v⟩) he] at hq
        clear hrun he
        go_wp2_with fail
        go_ret
        exact ⟨ret_bool hfin.out.symm, hb0.alloc hb0.size _⟩
      · have hnext : Hid ((⟨k1, ⟨ho, hn⟩, wh, ⟨ao, an⟩, ⟨bo, bn⟩, v⟩ : St) ∉ L.take (k + 1)) := Lib.hid (by
          rw [List.take_succ_eq_append_getElem hlt, List.mem_append, List.mem_singleton]
          rintro (h | h)
          · exact hrun.out h
          · exact he h.symm)
        have hq := fun w => SynE.eqS L[k].kind L[k].head.owner L[k].head.name L[k].who L[k].a.owner L[k].a.name L[k].b.owner L[k].b.name L[k].via k1 ho hn wh ao an bo bn v w
        rw [decide_eq_false (p := (⟨L[k].kind, ⟨L[k].head.owner, L[k].head.name⟩, L[k].who, ⟨L[k].a.owner, L[k].a.name⟩, ⟨L[k].b.owner, L[k].b.name⟩, L[k].via⟩ : St) = ⟨k1, ⟨ho, hn⟩, wh, ⟨ao, an⟩, ⟨bo, bn⟩, v⟩) he] at hq
        clear hrun he
        go_wp2_with fail
        go_roundw
        case rel => exact ⟨k + 1, by omega, by go_num, hnext, hbel.alloc hsz _⟩
        case measure => simp [intOf]; omega
    · have hfin : Hid (decide ((⟨k1, ⟨ho, hn⟩, wh, ⟨ao, an⟩, ⟨bo, bn⟩, v⟩ : St) ∈ L) = false) := Lib.hid (decide_eq_false (by
        have := hrun.out
        rwa [List.take_of_length_le (by omega)] at this))
      clear hrun
      go_wp2_with fail
      go_ret
      exact ⟨ret_bool hfin.out.symm, hb0⟩

def LightPost (L : List St) (w : World) (e : Ending) (w' : World) : Prop := ∃ b, e = .returned (.bool b) ∧ (b = true → L.length ≤ 40) ∧ Below w.heap.size w w'
set_option maxRecDepth 100000 in
theorem light (A : Option Addr) (ca : Nat) (L : List St) (w : World) (hL : L.length ≤ maxLen) (hA : SG w A L) : Calls Try.prog 7 #[.slice A L.length ca] w (LightPost L w) := by
  have HA := Lib.hid (fun w' (hb : Below w.heap.size w w') => hA.below hb)
  unfold maxLen at hL
  clear hA
  by_cases g1 : 40 < L.length
  · have d1 : decide ((40 : Int) < (L.length : Int)) = true := by simp; omega
    go_enter Try.func7, Try.ntmps7
    go_wp2_with fail
    go_ret
    exact ⟨false, rfl, (fun h => by cases h), Below.refl _ _⟩
  have d1 : decide ((40 : Int) < (L.length : Int)) = false := by simp; omega
  go_enter Try.func7, Try.ntmps7
  go_wp2_with fail
  clear d1
  go_loopw [10] (fun i wr => ∃ j : Nat, j ≤ L.length ∧ i = .int .i64 j ∧ Below w.heap.size w wr) (fun i _ => L.length - (intOf i).toNat)
  case atStart => exact ⟨0, by omega, rfl, Below.refl _ _⟩
  case round =>
    obtain ⟨j, hj, rfl, hb⟩ := hrel
    by_cases hlt : j < L.length
    · have e1 : decide ((j : Int) < L.length) = true := by simp; omega
      obtain ⟨g, o, rfl, hg, hc⟩ := HA.out _ hb (by omega)
      obtain ⟨a0, a1, a2, a3, a4, a5, a6, a7, a8⟩ := hc j hlt
      have p1 : (0 : Int) ≤ j := by omega
      have p2 : (j : Int) < L.length := by omega
      have HLi := Lib.hid (fun w' => SynM.light L[j] w')
      have HB := Lib.hid hb
      clear hc hb hg
      generalize L[j] = x at *
      obtain ⟨k1, ⟨ho, hn⟩, wh, ⟨ao, an⟩, ⟨bo, bn⟩, v1⟩ := x
      unfold St.val at HLi
      dsimp only at HLi a0 a1 a2 a3 a4 a5 a6 a7 a8
      generalize SynM.lightS ⟨k1, ⟨ho, hn⟩, wh, ⟨ao, an⟩, ⟨bo, bn⟩, v1⟩ = bl at *
      have hbX := below_alloc wr (.cells #[.int .i64 k1, .string ho, .string hn, .string wh, .string ao, .string an, .string bo, .string bn, .string v1] 26)
      have c2 := fun o => Lib.cell_of_heap (heap_alloc_new wr (.cells #[.int .i64 k1, .string ho, .string hn, .string wh, .string ao, .string an, .string bo, .string bn, .string v1] 26)) o
      have HBX := Lib.hid (nx HB.out hbX)
      clear hbX
      go_upto_region 6 with fail
      generalize wr.alloc (.cells #[.int .i64 k1, .string ho, .string hn, .string wh, .string ao, .string an, .string bo, .string bn, .string v1] 26) = w0 at *
      clear a0 a1 a2 a3 a4 a5 a6 a7 a8
      cases bl with
      | false =>
        go_wp2_with fail
        refine (HLi.out _).mono ?_
        rintro e w1 ⟨rfl, hg1⟩
        have HB1 := Lib.hid (nx HBX.out hg1.below)
        clear hg1 c2 HLi
        go_wp2_with fail
        go_ret
        exact ⟨false, rfl, (fun h => by cases h), HB1.out⟩
      | true =>
        go_wp2_with fail
        refine (HLi.out _).mono ?_
        rintro e w1 ⟨rfl, hg1⟩
        have HB1 := Lib.hid (nx HBX.out hg1.below)
        clear hg1 c2 HLi
        go_wp2_with fail
        go_roundw
        case rel => exact ⟨j + 1, by omega, by go_num, HB1.out⟩
        case measure => simp [intOf]; omega
    · have e1 : decide ((j : Int) < L.length) = false := by simp; omega
      have HB := Lib.hid hb
      clear hb
      go_wp2_with fail
      go_ret
      exact ⟨true, rfl, fun _ => by omega, HB.out⟩
set_option maxHeartbeats 1000000 in
set_option maxRecDepth 100000 in
theorem reaches (p : Py) (A1 A2 A3 A4 B : Option Addr) (c1 c2 c3 c4 cb : Nat) (C : List St) (w : World) (n1 : p.stmts.length ≤ 1000) (n2 : p.grow.length ≤ 10000) (n3 : p.shrink.length ≤ 10000) (n4 : C.length ≤ 1000) (h1 : SG w A1 p.stmts) (h2 : RG w A2 p.grow) (h3 : RG w A3 p.shrink) (hB : SG w B C) (f1 : ∀ s ∈ p.stmts, s.fit) (f2 : ∀ s ∈ C, s.fit) :
    Calls Try.prog 22 #[p.val A1 A2 A3 A4 c1 c2 c3 c4, .slice B C.length cb] w fun e w' => e = .returned (.bool (reach p C)) ∧ Below w.heap.size w w' := by
  have hbX := below_alloc w (.cells #[.slice A1 p.stmts.length c1, .slice A2 p.grow.length c2, .slice A3 p.shrink.length c3, .slice A4 p.asks.length c4] 40)
  have hX := heap_alloc_new w (.cells #[.slice A1 p.stmts.length c1, .slice A2 p.grow.length c2, .slice A3 p.shrink.length c3, .slice A4 p.asks.length c4] 40)
  have hPB : PBox (w.alloc (.cells #[.slice A1 p.stmts.length c1, .slice A2 p.grow.length c2, .slice A3 p.shrink.length c3, .slice A4 p.asks.length c4] 40)) w.heap.size p := ⟨A1, A2, A3, A4, c1, c2, c3, c4, hX, h2.below hbX, h3.below hbX⟩
  have HAm := Lib.hid (among A1 c1 p.stmts _ n1 (h1.below hbX))
  have HPB := Lib.hid hPB
  have HB0 := Lib.hid hbX
  have HX := Lib.hid hX
  have HGn := Lib.hid (fun w' (hb : Below w.heap.size w w') => gone p A1 A2 A3 A4 B c1 c2 c3 c4 cb C w' n1 n4 (h1.below hb) (hB.below hb) f1)
  have HSB := Lib.hid (fun w' (hb : Below w.heap.size w w') => hB.below hb)
  have HF2 := Lib.hid f2
  have HFG : Hid (∀ s ∈ (sortL cmpS [] p.stmts).filter (fun s => !decide (s ∈ C)), s.fit) := Lib.hid (fun s hs => sort_fit f1 s (List.mem_filter.1 hs).1)
  have HLG : Hid (((sortL cmpS [] p.stmts).filter (fun s => !decide (s ∈ C))).length ≤ 100000) := Lib.hid (by
    have h := List.length_filter_le (fun s => !decide (s ∈ C)) (sortL cmpS [] p.stmts)
    have h2 := sort_len p.stmts
    omega)
  unfold reach
  unfold Py.val at HGn ⊢
  unfold OwnPost at HGn
  clear hbX hX hPB h1 h2 h3 hB f1 f2
  generalize ((sortL cmpS [] p.stmts).filter (fun s => !decide (s ∈ C))) = D at *
  obtain ⟨a1, ha1⟩ : ∃ a1, (C.all fun s => (s.right && decide (s ∈ p.stmts)) || come p s) = a1 := ⟨_, rfl⟩
  obtain ⟨a2, ha2⟩ : ∃ a2, D.all (go_ p) = a2 := ⟨_, rfl⟩
  rw [ha1, ha2]
  have HA1 := Lib.hid ha1
  have HA2 := Lib.hid ha2
  clear ha1 ha2
  go_enter Try.func22, Try.ntmps22
  go_upto_region 1 with fail
  obtain ⟨b0, hb0⟩ : ∃ b0, w.heap.size = b0 := ⟨_, rfl⟩
  simp only [hb0] at HX HPB ⊢
  generalize w.alloc (.cells #[.slice A1 p.stmts.length c1, .slice A2 p.grow.length c2, .slice A3 p.shrink.length c3, .slice A4 p.asks.length c4] 40) = w0 at *
  have HD := Lib.hid (fun w' (hb : Below w0.heap.size w0 w') (o : Nat) => Lib.cell_of_heap ((hb.block b0 (Array.getElem?_eq_some_iff.1 HX.out).1).trans HX.out) o)
  have d0 := HD.out w0 (Below.refl _ _)
  go_wp2_with fail
  refine HAm.out.mono ?_
  intro e w1 hp
  obtain ⟨v, rfl, hs, hb1⟩ := hp
  obtain ⟨F, caps, hv, _⟩ := id hs
  subst hv
  have hx1 := below_alloc w1 (.cells #[.func (.func F) #[] caps] 28)
  have hy1 := heap_alloc_new w1 (.cells #[.func (.func F) #[] caps] 28)
  have hs1 : Such (w1.alloc (.cells #[.func (.func F) #[] caps] 28)).heap.size (w1.alloc (.cells #[.func (.func F) #[] caps] 28)) (.func (.func 47) #[] #[.pointer (some ⟨w1.heap.size, 0, none⟩)]) (fun s => s.right && decide (s ∈ p.stmts)) :=
    ⟨_, _, rfl, enter_r1, fun w' hb s hs' => r1 (hs.later (nx hx1 hb)) (nx hx1 hb).size w1.heap.size (Lib.cell_of_heap ((hb.block w1.heap.size (by simp)).trans hy1) 0) s hs'⟩
  have hx2 := below_alloc (w1.alloc (.cells #[.func (.func F) #[] caps] 28)) (.cells #[.func (.func 47) #[] #[.pointer (some ⟨w1.heap.size, 0, none⟩)]] 28)
  have hy2 := heap_alloc_new (w1.alloc (.cells #[.func (.func F) #[] caps] 28)) (.cells #[.func (.func 47) #[] #[.pointer (some ⟨w1.heap.size, 0, none⟩)]] 28)
  have hsz : (w1.alloc (.cells #[.func (.func F) #[] caps] 28)).heap.size = w1.heap.size + 1 := by simp
  have HW := Lib.hid (nx (nx hb1 hx1) hx2)
  have hs2 : Such ((w1.alloc (.cells #[.func (.func F) #[] caps] 28)).alloc (.cells #[.func (.func 47) #[] #[.pointer (some ⟨w1.heap.size, 0, none⟩)]] 28)).heap.size ((w1.alloc (.cells #[.func (.func F) #[] caps] 28)).alloc (.cells #[.func (.func 47) #[] #[.pointer (some ⟨w1.heap.size, 0, none⟩)]] 28)) (.func (.func 48) #[] #[.pointer (some ⟨w1.heap.size + 1, 0, none⟩), .pointer (some ⟨b0, 0, none⟩)]) (fun s => (s.right && decide (s ∈ p.stmts)) || come p s) :=
    ⟨_, _, rfl, enter_r2, fun w' hb s hs' => r2 (hs1.later (nx hx2 hb)) (nx hx2 hb).size (w1.heap.size + 1) b0 (Lib.cell_of_heap ((hb.block (w1.heap.size + 1) (by simp)).trans (hsz ▸ hy2)) 0) (HPB.out.below (nx HW.out hb)) n2 s hs'⟩
  have hs3 : Such ((w1.alloc (.cells #[.func (.func F) #[] caps] 28)).alloc (.cells #[.func (.func 47) #[] #[.pointer (some ⟨w1.heap.size, 0, none⟩)]] 28)).heap.size ((w1.alloc (.cells #[.func (.func F) #[] caps] 28)).alloc (.cells #[.func (.func 47) #[] #[.pointer (some ⟨w1.heap.size, 0, none⟩)]] 28)) (.func (.func 49) #[] #[.pointer (some ⟨b0, 0, none⟩)]) (go_ p) :=
    ⟨_, _, rfl, enter_r3, fun w' hb s hs' => r3 b0 (HPB.out.below (nx HW.out hb)) n3 s⟩
  have HEa := Lib.hid (each B cb _ _ C _ (by omega) (HSB.out _ (nx HB0.out HW.out)) HF2.out (Nat.le_refl _) hs2)
  have HS3 := Lib.hid hs3
  clear hs hb1 hx1 hy1 hs1 hx2 hy2 hs2 hs3 HAm hsz d0
  rw [HA1.out] at HEa
  clear HA1
  go_upto_region 5 with fail
  generalize (w1.alloc (.cells #[.func (.func F) #[] caps] 28)).alloc (.cells #[.func (.func 47) #[] #[.pointer (some ⟨w1.heap.size, 0, none⟩)]] 28) = w2 at *
  cases a1 with
  | false =>
    go_wp2_with fail
    refine HEa.out.mono ?_
    rintro e w3 ⟨rfl, hb3⟩
    have HF := Lib.hid (nx HB0.out (nx HW.out hb3))
    clear hb3
    go_wp2_with fail
    go_ret
    exact ⟨rfl, HF.out⟩
  | true =>
    go_wp2_with fail
    refine HEa.out.mono ?_
    rintro e w3 ⟨rfl, hb3⟩
    have d3 := HD.out w3 (nx HW.out hb3)
    have HB3 := Lib.hid hb3
    have HG3 := Lib.hid (HGn.out w3 (nx HB0.out (nx HW.out hb3)))
    clear hb3 HEa HGn
    go_wp2_with fail
    refine HG3.out.mono ?_
    rintro e w4 ⟨v4, rfl, ho4, hb4⟩
    obtain ⟨A5, c5, rfl, hS5⟩ := ho4.form
    have HE4 := Lib.hid (each (B := w2.heap.size) A5 c5 _ (go_ p) D w4 HLG.out hS5 HFG.out (nx HB3.out hb4).size (HS3.out.later (nx HB3.out hb4)))
    have HB4 := Lib.hid (nx HB3.out hb4)
    rw [HA2.out] at HE4
    clear HA2
    clear ho4 hb4 hS5 HG3 d3
    go_wp2_with fail
    refine HE4.out.mono ?_
    rintro e w5 ⟨rfl, hb5⟩
    have HF := Lib.hid (nx HB0.out (nx HW.out (nx HB4.out hb5)))
    clear hb5
    go_wp2_with fail
    go_ret
    exact ⟨ret_bool (by first | rfl | simp), HF.out⟩
end Go.Proofs.Ytpjacngbkohmdaa.StH
/- The document's Sort, by contract. -/
namespace Go.Proofs.Ytpjacngbkohmdaa.SynDB
set_option linter.unusedVariables false
set_option linter.unusedSimpArgs false
open Go.RowKit Go.Sort Go.Lib Go.Proofs Go.Proofs.Ytpjacngbkohmdaa.Plain Go.Proofs.Ytpjacngbkohmdaa.SynP Go.Proofs.Ytpjacngbkohmdaa.Grown Go.Proofs.Ytpjacngbkohmdaa.SynC Go.Proofs.Ytpjacngbkohmdaa.SynD Go.Proofs.Ytpjacngbkohmdaa.SynD2 Go.Proofs.Ytpjacngbkohmdaa.SynD3 Go.Proofs.Ytpjacngbkohmdaa.SynDA Go.Proofs.Ytpjacngbkohmdaa.SynS
set_option linter.unusedVariables false
set_option linter.unusedSimpArgs false
def SortPost (L : List St) (w : World) (e : Ending) (w' : World) : Prop := ∃ A c, e = .returned (.slice A (sortL cmpS [] L).length c) ∧ StRow w' A (sortL cmpS [] L) ∧ Below w.heap.size w w'
set_option maxHeartbeats 4000000 in
set_option maxRecDepth 1000000 in
theorem sortRef (A0 : Option Addr) (ca : Nat) (L : List St) (w : World) (hL : L.length ≤ 1000) (hA : StAt w A0 L) : Calls Try.prog 11 #[.slice A0 L.length ca] w (SortPost L w) := by
  have hm : Try.prog.follows .mixedOrders = true := by kernel_rfl
  have HA := Lib.hid hA
  have HI := Lib.hid (info_parts infoSt)
  clear hA
  go_enter Try.func11, Try.ntmps11
  go_wp2_with fail
  go_loopg [3, 10] L.length (fun gh u3 u10 wr => ∃ (i c : Nat) (A : Option Addr), i ≤ L.length ∧ L.length - i ≤ gh ∧ u10 = .int .i64 i ∧ u3 = .slice A (sortL cmpS [] (L.take i)).length c ∧ Hid (wr.ownsRow w.heap.size 26 9 (.slice A (sortL cmpS [] (L.take i)).length c) (sortL cmpS [] (L.take i)).length (stCells (sortL cmpS [] (L.take i)))) ∧ Below w.heap.size w wr)
  case atStart => exact ⟨0, 0, none, by omega, by omega, rfl, by simp [sortL], Lib.hid (by simpa [sortL, stCells] using World.ownsRow_nil w w.heap.size 26 9), Below.refl _ _⟩
  case round =>
    obtain ⟨i, c, A, hi, hgh, rfl, rfl, hown, hbel⟩ := hrel
    by_cases hlt : i < L.length
    · obtain ⟨g0, o0, rfl, hg0, hc0⟩ := (HA.out.below hbel).nine i hlt
      have hsn : sortL cmpS [] (L.take (i + 1)) = if L[i] ∈ sortL cmpS [] (L.take i) then sortL cmpS [] (L.take i) else insL cmpS L[i] (sortL cmpS [] (L.take i)) := by
        rw [List.take_succ_eq_append_getElem hlt, sortL_snoc]
      have hle : (sortL cmpS [] (L.take i)).length ≤ 1000 := by
        have := sortL_len (c := cmpS) (L.take i) []
        rw [List.length_take] at this
        simp at this; omega
      generalize hM : sortL cmpS [] (L.take i) = M at *
      generalize hs : L[i] = s at *
      obtain ⟨k1, ⟨ho, hn⟩, wh, ⟨ao, an⟩, ⟨bo, bn⟩, v⟩ := s
      have HN := Lib.hid hsn
      have HM := Lib.hid hM
      have HS := Lib.hid hs
      clear hsn hM hs
      have a0 := hc0 0 _ rfl
      have a1 := hc0 1 _ rfl
      have a2 := hc0 2 _ rfl
      have a3 := hc0 3 _ rfl
      have a4 := hc0 4 _ rfl
      have a5 := hc0 5 _ rfl
      have a6 := hc0 6 _ rfl
      have a7 := hc0 7 _ rfl
      have a8 := hc0 8 _ rfl
      rw [Nat.add_zero] at a0
      simp only [← Nat.add_assoc] at a1 a2 a3 a4 a5 a6 a7 a8
      have p1 : (0 : Int) ≤ i := by omega
      have p2 : (i : Int) < L.length := by omega
      clear hc0
      go_wp2_with fail
      have hO := own_keep hown.out (Below.refl _ _)
      have HR : ∀ w', Below wr.heap.size wr w' → StRow w' A M := fun w' hb => by
        obtain ⟨A', c', e, _, hr⟩ := StRow.of_own (own_keep hown.out hb)
        injection e with e1 e2 e3
        subst e1; exact hr
      have HRW := Lib.hid HR
      have hX : Below wr.heap.size wr (wr.alloc (.cells #[.int .i64 k1, .string ho, .string hn, .string wh, .string ao, .string an, .string bo, .string bn, .string v] 26)) := (Below.refl _ _).alloc (Nat.le_refl _) _
      have HC := Lib.hid (has A c M ⟨k1, ⟨ho, hn⟩, wh, ⟨ao, an⟩, ⟨bo, bn⟩, v⟩ (wr.alloc (.cells #[.int .i64 k1, .string ho, .string hn, .string wh, .string ao, .string an, .string bo, .string bn, .string v] 26)) hle (HRW.out _ hX))
      clear HR hO
      by_cases hmem : (⟨k1, ⟨ho, hn⟩, wh, ⟨ao, an⟩, ⟨bo, bn⟩, v⟩ : St) ∈ M
      · rw [decide_eq_true hmem] at HC
        have hstep := Lib.hid (HN.out.trans (if_pos hmem))
        clear hmem HN
        refine HC.out.mono ?_
        rintro e w2 ⟨rfl, hb2⟩
        have hbA := hX.trans (hb2.mono (by simp))
        go_wp2_with fail
        go_roundg (L.length - (i + 1))
        case measure => omega
        case rel =>
          refine ⟨i + 1, c, A, by omega, Nat.le_refl _, by go_num, by rw [hstep.out], ?_, hbel.trans (hbA.mono hbel.size)⟩
          rw [hstep.out]
          exact Lib.hid (own_keep hown.out hbA)
      · rw [decide_eq_false hmem] at HC
        have hstep := Lib.hid (HN.out.trans (if_neg hmem))
        clear hmem HN
        refine HC.out.mono ?_
        rintro e w2 ⟨rfl, hb2⟩
        have hbA := hX.trans (hb2.mono (by simp))
        have hown2 := Lib.hid (own_keep hown.out hbA)
        have hrow2 := Lib.hid (HRW.out _ hbA)
        have hsz2 : wr.heap.size < w2.heap.size := by have := hb2.size; simp at this; omega
        have hbox : ∀ o, w2.cell? ⟨wr.heap.size, o, none⟩ = (#[.int .i64 k1, .string ho, .string hn, .string wh, .string ao, .string an, .string bo, .string bn, .string v] : Array Value)[o]? := fun o => (hb2.cell (p := ⟨wr.heap.size, o, none⟩) (by simp)).trans (Lib.cell_of_heap (heap_alloc_new wr _) o)
        have c0 := hbox 0
        have c1 := hbox 1
        have c2 := hbox 2
        have c3 := hbox 3
        have c4 := hbox 4
        have c5 := hbox 5
        have c6 := hbox 6
        have c7 := hbox 7
        have c8 := hbox 8
        simp only [List.getElem?_toArray, List.getElem?_cons_zero, List.getElem?_cons_succ] at c0 c1 c2 c3 c4 c5 c6 c7 c8
        have hbW := Lib.hid (hbel.trans (hbA.mono hbel.size))
        have hwr := hbel.size
        clear hbox HC hX a0 a1 a2 a3 a4 a5 a6 a7 a8 hb2 hbA HRW hown hbel
        go_wp2_with fail
        go_loopg [6] M.length (fun gk u6 wr2 => ∃ (k m : Nat) (os : Array Obj), u6 = .int .i64 k ∧ k ≤ M.length ∧ M.length - k ≤ gk ∧ wr2 = grow (w2.drewN m) os ∧ Hid (∀ j, j < k → (h : j < M.length) → cmpS M[j] ⟨k1, ⟨ho, hn⟩, wh, ⟨ao, an⟩, ⟨bo, bn⟩, v⟩ < 0))
        case atStart => exact ⟨0, 0, #[], rfl, by omega, by omega, by rw [grow_empty]; rfl, Lib.hid (fun j hj => by omega)⟩
        case round =>
          obtain ⟨k, m, os, rfl, hk, hgk, rfl, hall⟩ := hrel
          have hG := Grew.mk w2 m os
          have f0 := (hG.cell (a := ⟨wr.heap.size, 0, none⟩) hsz2).trans c0
          have f1 := (hG.cell (a := ⟨wr.heap.size, 1, none⟩) hsz2).trans c1
          have f2 := (hG.cell (a := ⟨wr.heap.size, 2, none⟩) hsz2).trans c2
          have f3 := (hG.cell (a := ⟨wr.heap.size, 3, none⟩) hsz2).trans c3
          have f4 := (hG.cell (a := ⟨wr.heap.size, 4, none⟩) hsz2).trans c4
          have f5 := (hG.cell (a := ⟨wr.heap.size, 5, none⟩) hsz2).trans c5
          have f6 := (hG.cell (a := ⟨wr.heap.size, 6, none⟩) hsz2).trans c6
          have f7 := (hG.cell (a := ⟨wr.heap.size, 7, none⟩) hsz2).trans c7
          have f8 := (hG.cell (a := ⟨wr.heap.size, 8, none⟩) hsz2).trans c8
          have hownW := Lib.hid (own_keep hown2.out hG.below)
          have hbX := Lib.hid (hbW.out.trans (hG.below.mono (by omega)))
          have hrowW := hrow2.out.below hG.below
          have hszW : wr.heap.size < (grow (w2.drewN m) os).heap.size := Nat.lt_of_lt_of_le hsz2 hG.size
          have HGm := Lib.hid (⟨m, os, rfl⟩ : ∃ m' os', grow (w2.drewN m) os = grow (w2.drewN m') os')
          clear c0 c1 c2 c3 c4 c5 c6 c7 c8 hG
          generalize grow (w2.drewN m) os = W at *
          by_cases hkl : k < M.length
          · obtain ⟨g1, rfl, hg1, hcc⟩ := hrowW (by omega)
            obtain ⟨b0, b1, b2, b3, b4, b5, b6, b7, b8⟩ := hcc k hkl
            have d1 : decide ((k : Int) < M.length) = true := by simp; omega
            have q1 : (0 : Int) ≤ k := by omega
            have q2 : (k : Int) < M.length := by omega
            have hB := Lib.hid (fun w' => Syn3.before M[k] ⟨k1, ⟨ho, hn⟩, wh, ⟨ao, an⟩, ⟨bo, bn⟩, v⟩ w')
            clear hcc hrowW
            by_cases hv : cmpS M[k] ⟨k1, ⟨ho, hn⟩, wh, ⟨ao, an⟩, ⟨bo, bn⟩, v⟩ < 0
            · rw [decide_eq_true hv] at hB
              have hnext : Hid (∀ j, j < k + 1 → (h : j < M.length) → cmpS M[j] ⟨k1, ⟨ho, hn⟩, wh, ⟨ao, an⟩, ⟨bo, bn⟩, v⟩ < 0) := Lib.hid (fun j hj h => by
                rcases Nat.lt_or_ge j k with h' | h'
                · exact hall.out j h' h
                · have : j = k := by omega
                  subst this; exact hv)
              clear hv hall
              go_wp2_with fail
              have gC := grow_cell
              go_quiet_grown ((go_at_call 32; exact grewCall (hB.out _)))
              clear gC
              go_wp2_with fail
              go_roundg (M.length - (k + 1))
              case measure => omega
              case rel =>
                obtain ⟨m', os', hGm⟩ := HGm.out
                exact ⟨k + 1, m' + nq, os' ++ osq, by go_num, by omega, Nat.le_refl _, by rw [hGm]; show grow (grow ((w2.drewN m').drewN nq) os') osq = _; rw [grow_grow, World.drewN_drewN], hnext⟩
            · rw [decide_eq_false hv] at hB
              have hins := Lib.hid (insL_at (c := cmpS) ⟨k1, ⟨ho, hn⟩, wh, ⟨ao, an⟩, ⟨bo, bn⟩, v⟩ M k hk hall.out (fun _ => hv))
              clear hv hall HGm
              go_wp2_with fail
              have gC := grow_cell
              go_quiet_grown ((go_at_call 32; exact grewCall (hB.out _)))
              clear gC
              have hZ := Grew.mk W nq osq
              have e0 := (hZ.cell (a := ⟨wr.heap.size, 0, none⟩) hszW).trans f0
              have e1 := (hZ.cell (a := ⟨wr.heap.size, 1, none⟩) hszW).trans f1
              have e2 := (hZ.cell (a := ⟨wr.heap.size, 2, none⟩) hszW).trans f2
              have e3 := (hZ.cell (a := ⟨wr.heap.size, 3, none⟩) hszW).trans f3
              have e4 := (hZ.cell (a := ⟨wr.heap.size, 4, none⟩) hszW).trans f4
              have e5 := (hZ.cell (a := ⟨wr.heap.size, 5, none⟩) hszW).trans f5
              have e6 := (hZ.cell (a := ⟨wr.heap.size, 6, none⟩) hszW).trans f6
              have e7 := (hZ.cell (a := ⟨wr.heap.size, 7, none⟩) hszW).trans f7
              have e8 := (hZ.cell (a := ⟨wr.heap.size, 8, none⟩) hszW).trans f8
              have hownZ := Lib.hid (own_keep hownW.out hZ.below)
              have hbZ := Lib.hid (hbX.out.trans (hZ.below.mono (by omega)))
              have hszZ : wr.heap.size < (grow (W.drewN nq) osq).heap.size := Nat.lt_of_lt_of_le hszW hZ.size
              clear hZ f0 f1 f2 f3 f4 f5 f6 f7 f8 hownW hbX hszW
              generalize grow (W.drewN nq) osq = Z at *
              obtain ⟨i0, hi0, hz0, hz1, hz2⟩ := HI.out
              have hkc : k < c := Nat.lt_of_lt_of_le hkl (cap_le hownZ.out)
              have hkc2 : k ≤ c := by omega
              have Hc : Hid (∀ ad, (some ⟨g1, k * 9, none⟩ : Option Addr) = some ad → ∀ j u, (stCells (M.drop k))[j]? = some u → (Z.alloc (.cells #[] 26)).cell? (ad.add j) = some u) := Lib.hid (fun ad h j u hu => drop_new hownZ.out h hk j u hu)
              go_wp2_with (at_builtin; go_loud (refine wpList_append_from _ rfl _ _ 22 rfl Z.heap.size 26 i0 zeroS.val 9 136 Try.underlying22 hi0 hz0 hz1 hz2 rfl (by decide) _ _ _ rfl (own_empty Z _ 9) (some ⟨g1, k * 9, none⟩) (M.length - k) (c - k) (stCells (M.drop k)) rfl (drop_cells M k) (fun h => by cases h) Hc.out (stCells_one _) (by unfold maxLen; omega) (by omega) (by simp) ?_))
              intro v7 w3 hown7 hgrow7
              have hb3 : Below Z.heap.size Z w3 := ((Below.refl _ _).alloc (Nat.le_refl _) _).grown hgrow7 (by simp) (fun k hk => by simp [Value.ownBlock] at hk; omega)
              try simp only [Nat.zero_add, List.nil_append] at hown7
              obtain ⟨A7, c7, rfl, hat7⟩ := at_drop (M := M) (k := k) hown7
              have HA7 := Lib.hid hat7
              have hown3 := Lib.hid (own_keep hownZ.out hb3)
              have hz3 := hb3.size
              have e0 := (hb3.cell (p := ⟨wr.heap.size, 0, none⟩) hszZ).trans e0
              have e1 := (hb3.cell (p := ⟨wr.heap.size, 1, none⟩) hszZ).trans e1
              have e2 := (hb3.cell (p := ⟨wr.heap.size, 2, none⟩) hszZ).trans e2
              have e3 := (hb3.cell (p := ⟨wr.heap.size, 3, none⟩) hszZ).trans e3
              have e4 := (hb3.cell (p := ⟨wr.heap.size, 4, none⟩) hszZ).trans e4
              have e5 := (hb3.cell (p := ⟨wr.heap.size, 5, none⟩) hszZ).trans e5
              have e6 := (hb3.cell (p := ⟨wr.heap.size, 6, none⟩) hszZ).trans e6
              have e7 := (hb3.cell (p := ⟨wr.heap.size, 7, none⟩) hszZ).trans e7
              have e8 := (hb3.cell (p := ⟨wr.heap.size, 8, none⟩) hszZ).trans e8
              have hbY := Lib.hid (hbZ.out.trans (hb3.mono (by omega)))
              have hol : Hid (∀ b, (some ⟨g1, 0, none⟩ : Option Addr) = some b → ∀ j u, (stCells (M.take k))[j]? = some u → (w3.drew.alloc (.cells #[.int .i64 k1, .string ho, .string hn, .string wh, .string ao, .string an, .string bo, .string bn, .string v] 26)).cell? (b.add j) = some u) := Lib.hid (olds_at hown3.out hk)
              have hnw := Lib.hid (new_at w3.drew ⟨k1, ⟨ho, hn⟩, wh, ⟨ao, an⟩, ⟨bo, bn⟩, v⟩)
              skip
              clear hown7 hgrow7 hat7 hown3 hownZ hb3 Hc
              go_wp2_with fail
              go_region_law (first | (refine step_append_grows rfl (.tmp 39) (.tmp 41) 22 rfl 26 i0 zeroS.val 9 136 Try.underlying22 hi0 hz0 hz1 hz2 rfl (by decide) (some ⟨g1, 0, none⟩) k k (stCells (M.take k)) (by simp [Act.eval]) (fun h => by cases h) (take_cells M k hk) (hol.out) ⟨w3.heap.size, 0, none⟩ 1 1 (St.cells ⟨k1, ⟨ho, hn⟩, wh, ⟨ao, an⟩, ⟨bo, bn⟩, v⟩) (by simp [Act.eval]) rfl hnw.out (SynDA.stcell_one _) (by omega) (by unfold maxLen; omega) (by omega) ?_; intro v4 w4 hown4 hgrow4) | (refine step_append_from rfl (.tmp 42) (.tmp 43) 22 rfl (w3.drew.alloc (.cells #[.int .i64 k1, .string ho, .string hn, .string wh, .string ao, .string an, .string bo, .string bn, .string v] 26)).heap.size 26 i0 zeroS.val 9 136 Try.underlying22 hi0 hz0 hz1 hz2 rfl (by decide) v4 (k + 1) (stCells (M.take k) ++ St.cells ⟨k1, ⟨ho, hn⟩, wh, ⟨ao, an⟩, ⟨bo, bn⟩, v⟩) (by simp [Act.eval]) hown4 A7 (M.length - k) c7 (stCells (M.drop k)) (by simp [Act.eval]) (drop_cells M k) (rest_none HA7.out) (rest_at HA7.out hgrow4) (stCells_one _) (by unfold maxLen; omega) (by omega) (by have := hgrow4.size; exact this) ?_; intro v5 w5 hown5 hgrow5))
              all_goals
                obtain ⟨A5, c5, rfl, hF⟩ := own_put (B := w.heap.size) hown5 hk (hstep.out.trans hins.out) (by simp; omega)
                have hFin := Lib.hid (below_fin hbY.out (by omega) hown4 hgrow4 hgrow5)
                go_wp2_with fail
                go_roundg (L.length - (i + 1))
                case measure => omega
                case rel => exact ⟨i + 1, c5, A5, by omega, Nat.le_refl _, by go_num, rfl, Lib.hid hF, hFin.out⟩
          · have hins := Lib.hid (insL_at (c := cmpS) ⟨k1, ⟨ho, hn⟩, wh, ⟨ao, an⟩, ⟨bo, bn⟩, v⟩ M k hk hall.out (fun h => absurd h hkl))
            have d1 : decide ((k : Int) < M.length) = false := by simp; omega
            clear hall HGm
            go_wp2_with fail
            have gC := grow_cell
            go_quiet_grown (fail)
            clear gC
            have hke : M.length ≤ k := by omega
            rcases own_ways hownW.out with ⟨rfl, rfl, h0⟩ | ⟨g1, rfl⟩
            · obtain rfl : M = [] := List.eq_nil_of_length_eq_zero h0
              obtain rfl : k = 0 := by simpa using hk
              clear hkl d1 hke h0
              have hZ := Grew.mk W nq osq
              have e0 := (hZ.cell (a := ⟨wr.heap.size, 0, none⟩) hszW).trans f0
              have e1 := (hZ.cell (a := ⟨wr.heap.size, 1, none⟩) hszW).trans f1
              have e2 := (hZ.cell (a := ⟨wr.heap.size, 2, none⟩) hszW).trans f2
              have e3 := (hZ.cell (a := ⟨wr.heap.size, 3, none⟩) hszW).trans f3
              have e4 := (hZ.cell (a := ⟨wr.heap.size, 4, none⟩) hszW).trans f4
              have e5 := (hZ.cell (a := ⟨wr.heap.size, 5, none⟩) hszW).trans f5
              have e6 := (hZ.cell (a := ⟨wr.heap.size, 6, none⟩) hszW).trans f6
              have e7 := (hZ.cell (a := ⟨wr.heap.size, 7, none⟩) hszW).trans f7
              have e8 := (hZ.cell (a := ⟨wr.heap.size, 8, none⟩) hszW).trans f8
              have hownZ := Lib.hid (own_keep hownW.out hZ.below)
              have hbZ := Lib.hid (hbX.out.trans (hZ.below.mono (by omega)))
              have hszZ : wr.heap.size < (grow (W.drewN nq) osq).heap.size := Nat.lt_of_lt_of_le hszW hZ.size
              clear hZ f0 f1 f2 f3 f4 f5 f6 f7 f8 hownW hbX hszW
              generalize grow (W.drewN nq) osq = Z at *
              obtain ⟨i0, hi0, hz0, hz1, hz2⟩ := HI.out
              skip
              have Hc : Hid (∀ ad, (none : Option Addr) = some ad → ∀ j u, (stCells (([] : List St).drop 0))[j]? = some u → (Z.alloc (.cells #[] 26)).cell? (ad.add j) = some u) := Lib.hid (fun ad h => by cases h)
              go_wp2_with (at_builtin; go_loud (refine wpList_append_from _ rfl _ _ 22 rfl Z.heap.size 26 i0 zeroS.val 9 136 Try.underlying22 hi0 hz0 hz1 hz2 rfl (by decide) _ _ _ rfl (own_empty Z _ 9) (none) (([] : List St).length - 0) (0) (stCells (([] : List St).drop 0)) rfl (drop_cells ([] : List St) 0) (fun h => rfl) Hc.out (stCells_one _) (by unfold maxLen; omega) (by omega) (by simp) ?_))
              intro v7 w3 hown7 hgrow7
              have hb3 : Below Z.heap.size Z w3 := ((Below.refl _ _).alloc (Nat.le_refl _) _).grown hgrow7 (by simp) (fun k hk => by simp [Value.ownBlock] at hk; omega)
              try simp only [Nat.zero_add, List.nil_append] at hown7
              obtain ⟨A7, c7, rfl, hat7⟩ := at_drop (M := ([] : List St)) (k := 0) hown7
              have HA7 := Lib.hid hat7
              have hown3 := Lib.hid (own_keep hownZ.out hb3)
              have hz3 := hb3.size
              have e0 := (hb3.cell (p := ⟨wr.heap.size, 0, none⟩) hszZ).trans e0
              have e1 := (hb3.cell (p := ⟨wr.heap.size, 1, none⟩) hszZ).trans e1
              have e2 := (hb3.cell (p := ⟨wr.heap.size, 2, none⟩) hszZ).trans e2
              have e3 := (hb3.cell (p := ⟨wr.heap.size, 3, none⟩) hszZ).trans e3
              have e4 := (hb3.cell (p := ⟨wr.heap.size, 4, none⟩) hszZ).trans e4
              have e5 := (hb3.cell (p := ⟨wr.heap.size, 5, none⟩) hszZ).trans e5
              have e6 := (hb3.cell (p := ⟨wr.heap.size, 6, none⟩) hszZ).trans e6
              have e7 := (hb3.cell (p := ⟨wr.heap.size, 7, none⟩) hszZ).trans e7
              have e8 := (hb3.cell (p := ⟨wr.heap.size, 8, none⟩) hszZ).trans e8
              have hbY := Lib.hid (hbZ.out.trans (hb3.mono (by omega)))
              have hol : Hid (∀ b, (none : Option Addr) = some b → ∀ j u, (stCells (([] : List St).take 0))[j]? = some u → (w3.drew.alloc (.cells #[.int .i64 k1, .string ho, .string hn, .string wh, .string ao, .string an, .string bo, .string bn, .string v] 26)).cell? (b.add j) = some u) := Lib.hid (olds_at hown3.out hk)
              have hnw := Lib.hid (new_at w3.drew ⟨k1, ⟨ho, hn⟩, wh, ⟨ao, an⟩, ⟨bo, bn⟩, v⟩)
              skip
              clear hown7 hgrow7 hat7 hown3 hownZ hb3 Hc
              go_wp2_with fail
              go_region_law (first | (refine step_append_grows rfl (.tmp 39) (.tmp 41) 22 rfl 26 i0 zeroS.val 9 136 Try.underlying22 hi0 hz0 hz1 hz2 rfl (by decide) (none) 0 0 (stCells (([] : List St).take 0)) (by simp [Act.eval]) (fun _ => ⟨rfl, rfl⟩) (take_cells ([] : List St) 0 hk) (fun b h => by cases h) ⟨w3.heap.size, 0, none⟩ 1 1 (St.cells ⟨k1, ⟨ho, hn⟩, wh, ⟨ao, an⟩, ⟨bo, bn⟩, v⟩) (by simp [Act.eval]) rfl hnw.out (SynDA.stcell_one _) (by omega) (by unfold maxLen; omega) (by omega) ?_; intro v4 w4 hown4 hgrow4) | (refine step_append_from rfl (.tmp 42) (.tmp 43) 22 rfl (w3.drew.alloc (.cells #[.int .i64 k1, .string ho, .string hn, .string wh, .string ao, .string an, .string bo, .string bn, .string v] 26)).heap.size 26 i0 zeroS.val 9 136 Try.underlying22 hi0 hz0 hz1 hz2 rfl (by decide) v4 (0 + 1) (stCells (([] : List St).take 0) ++ St.cells ⟨k1, ⟨ho, hn⟩, wh, ⟨ao, an⟩, ⟨bo, bn⟩, v⟩) (by simp [Act.eval]) hown4 A7 (([] : List St).length - 0) c7 (stCells (([] : List St).drop 0)) (by simp [Act.eval]) (drop_cells ([] : List St) 0) (rest_none HA7.out) (rest_at HA7.out hgrow4) (stCells_one _) (by unfold maxLen; omega) (by omega) (by have := hgrow4.size; exact this) ?_; intro v5 w5 hown5 hgrow5))
              all_goals
                obtain ⟨A5, c5, rfl, hF⟩ := own_put (B := w.heap.size) hown5 hk (hstep.out.trans hins.out) (by simp; omega)
                have hFin := Lib.hid (below_fin hbY.out (by omega) hown4 hgrow4 hgrow5)
                go_wp2_with fail
                go_roundg (L.length - (i + 1))
                case measure => omega
                case rel => exact ⟨i + 1, c5, A5, by omega, Nat.le_refl _, by go_num, rfl, Lib.hid hF, hFin.out⟩
            · by_cases hkc : k = c
              · subst hkc
                have hnil : M.drop k = [] := List.drop_of_length_le hke
                have HNIL := Lib.hid hnil
                clear hkl d1 hke hnil
                have hZ := Grew.mk W nq osq
                have e0 := (hZ.cell (a := ⟨wr.heap.size, 0, none⟩) hszW).trans f0
                have e1 := (hZ.cell (a := ⟨wr.heap.size, 1, none⟩) hszW).trans f1
                have e2 := (hZ.cell (a := ⟨wr.heap.size, 2, none⟩) hszW).trans f2
                have e3 := (hZ.cell (a := ⟨wr.heap.size, 3, none⟩) hszW).trans f3
                have e4 := (hZ.cell (a := ⟨wr.heap.size, 4, none⟩) hszW).trans f4
                have e5 := (hZ.cell (a := ⟨wr.heap.size, 5, none⟩) hszW).trans f5
                have e6 := (hZ.cell (a := ⟨wr.heap.size, 6, none⟩) hszW).trans f6
                have e7 := (hZ.cell (a := ⟨wr.heap.size, 7, none⟩) hszW).trans f7
                have e8 := (hZ.cell (a := ⟨wr.heap.size, 8, none⟩) hszW).trans f8
                have hownZ := Lib.hid (own_keep hownW.out hZ.below)
                have hbZ := Lib.hid (hbX.out.trans (hZ.below.mono (by omega)))
                have hszZ : wr.heap.size < (grow (W.drewN nq) osq).heap.size := Nat.lt_of_lt_of_le hszW hZ.size
                clear hZ f0 f1 f2 f3 f4 f5 f6 f7 f8 hownW hbX hszW
                generalize grow (W.drewN nq) osq = Z at *
                obtain ⟨i0, hi0, hz0, hz1, hz2⟩ := HI.out
                skip
                have Hc : Hid (∀ ad, (some ⟨g1, 0, none⟩ : Option Addr) = some ad → ∀ j u, (stCells (M.drop k))[j]? = some u → (Z.alloc (.cells #[] 26)).cell? (ad.add j) = some u) := Lib.hid (fun ad h j u hu => by rw [HNIL.out] at hu; simp [stCells] at hu)
                go_wp2_with (at_builtin; go_loud (refine wpList_append_from _ rfl _ _ 22 rfl Z.heap.size 26 i0 zeroS.val 9 136 Try.underlying22 hi0 hz0 hz1 hz2 rfl (by decide) _ _ _ rfl (own_empty Z _ 9) (some ⟨g1, 0, none⟩) (M.length - k) (0) (stCells (M.drop k)) rfl (drop_cells M k) (fun h => by cases h) Hc.out (stCells_one _) (by unfold maxLen; omega) (by omega) (by simp) ?_))
                intro v7 w3 hown7 hgrow7
                have hb3 : Below Z.heap.size Z w3 := ((Below.refl _ _).alloc (Nat.le_refl _) _).grown hgrow7 (by simp) (fun k hk => by simp [Value.ownBlock] at hk; omega)
                try simp only [Nat.zero_add, List.nil_append] at hown7
                obtain ⟨A7, c7, rfl, hat7⟩ := at_drop (M := M) (k := k) hown7
                have HA7 := Lib.hid hat7
                have hown3 := Lib.hid (own_keep hownZ.out hb3)
                have hz3 := hb3.size
                have e0 := (hb3.cell (p := ⟨wr.heap.size, 0, none⟩) hszZ).trans e0
                have e1 := (hb3.cell (p := ⟨wr.heap.size, 1, none⟩) hszZ).trans e1
                have e2 := (hb3.cell (p := ⟨wr.heap.size, 2, none⟩) hszZ).trans e2
                have e3 := (hb3.cell (p := ⟨wr.heap.size, 3, none⟩) hszZ).trans e3
                have e4 := (hb3.cell (p := ⟨wr.heap.size, 4, none⟩) hszZ).trans e4
                have e5 := (hb3.cell (p := ⟨wr.heap.size, 5, none⟩) hszZ).trans e5
                have e6 := (hb3.cell (p := ⟨wr.heap.size, 6, none⟩) hszZ).trans e6
                have e7 := (hb3.cell (p := ⟨wr.heap.size, 7, none⟩) hszZ).trans e7
                have e8 := (hb3.cell (p := ⟨wr.heap.size, 8, none⟩) hszZ).trans e8
                have hbY := Lib.hid (hbZ.out.trans (hb3.mono (by omega)))
                have hol : Hid (∀ b, (some ⟨g1, 0, none⟩ : Option Addr) = some b → ∀ j u, (stCells (M.take k))[j]? = some u → (w3.drew.alloc (.cells #[.int .i64 k1, .string ho, .string hn, .string wh, .string ao, .string an, .string bo, .string bn, .string v] 26)).cell? (b.add j) = some u) := Lib.hid (olds_at hown3.out hk)
                have hnw := Lib.hid (new_at w3.drew ⟨k1, ⟨ho, hn⟩, wh, ⟨ao, an⟩, ⟨bo, bn⟩, v⟩)
                skip
                clear hown7 hgrow7 hat7 hown3 hownZ hb3 Hc
                go_wp2_with fail
                go_region_law (first | (refine step_append_grows rfl (.tmp 39) (.tmp 41) 22 rfl 26 i0 zeroS.val 9 136 Try.underlying22 hi0 hz0 hz1 hz2 rfl (by decide) (some ⟨g1, 0, none⟩) k k (stCells (M.take k)) (by simp [Act.eval]) (fun h => by cases h) (take_cells M k hk) (hol.out) ⟨w3.heap.size, 0, none⟩ 1 1 (St.cells ⟨k1, ⟨ho, hn⟩, wh, ⟨ao, an⟩, ⟨bo, bn⟩, v⟩) (by simp [Act.eval]) rfl hnw.out (SynDA.stcell_one _) (by omega) (by unfold maxLen; omega) (by omega) ?_; intro v4 w4 hown4 hgrow4) | (refine step_append_from rfl (.tmp 42) (.tmp 43) 22 rfl (w3.drew.alloc (.cells #[.int .i64 k1, .string ho, .string hn, .string wh, .string ao, .string an, .string bo, .string bn, .string v] 26)).heap.size 26 i0 zeroS.val 9 136 Try.underlying22 hi0 hz0 hz1 hz2 rfl (by decide) v4 (k + 1) (stCells (M.take k) ++ St.cells ⟨k1, ⟨ho, hn⟩, wh, ⟨ao, an⟩, ⟨bo, bn⟩, v⟩) (by simp [Act.eval]) hown4 A7 (M.length - k) c7 (stCells (M.drop k)) (by simp [Act.eval]) (drop_cells M k) (rest_none HA7.out) (rest_at HA7.out hgrow4) (stCells_one _) (by unfold maxLen; omega) (by omega) (by have := hgrow4.size; exact this) ?_; intro v5 w5 hown5 hgrow5))
                all_goals
                  obtain ⟨A5, c5, rfl, hF⟩ := own_put (B := w.heap.size) hown5 hk (hstep.out.trans hins.out) (by simp; omega)
                  have hFin := Lib.hid (below_fin hbY.out (by omega) hown4 hgrow4 hgrow5)
                  go_wp2_with fail
                  go_roundg (L.length - (i + 1))
                  case measure => omega
                  case rel => exact ⟨i + 1, c5, A5, by omega, Nat.le_refl _, by go_num, rfl, Lib.hid hF, hFin.out⟩
              · have hkc2 : k ≤ c := by have := cap_le hownW.out; omega
                have hkc3 : k < c := by omega
                clear hkl d1 hke hkc
                have hZ := Grew.mk W nq osq
                have e0 := (hZ.cell (a := ⟨wr.heap.size, 0, none⟩) hszW).trans f0
                have e1 := (hZ.cell (a := ⟨wr.heap.size, 1, none⟩) hszW).trans f1
                have e2 := (hZ.cell (a := ⟨wr.heap.size, 2, none⟩) hszW).trans f2
                have e3 := (hZ.cell (a := ⟨wr.heap.size, 3, none⟩) hszW).trans f3
                have e4 := (hZ.cell (a := ⟨wr.heap.size, 4, none⟩) hszW).trans f4
                have e5 := (hZ.cell (a := ⟨wr.heap.size, 5, none⟩) hszW).trans f5
                have e6 := (hZ.cell (a := ⟨wr.heap.size, 6, none⟩) hszW).trans f6
                have e7 := (hZ.cell (a := ⟨wr.heap.size, 7, none⟩) hszW).trans f7
                have e8 := (hZ.cell (a := ⟨wr.heap.size, 8, none⟩) hszW).trans f8
                have hownZ := Lib.hid (own_keep hownW.out hZ.below)
                have hbZ := Lib.hid (hbX.out.trans (hZ.below.mono (by omega)))
                have hszZ : wr.heap.size < (grow (W.drewN nq) osq).heap.size := Nat.lt_of_lt_of_le hszW hZ.size
                clear hZ f0 f1 f2 f3 f4 f5 f6 f7 f8 hownW hbX hszW
                generalize grow (W.drewN nq) osq = Z at *
                obtain ⟨i0, hi0, hz0, hz1, hz2⟩ := HI.out
                skip
                have Hc : Hid (∀ ad, (some ⟨g1, k * 9, none⟩ : Option Addr) = some ad → ∀ j u, (stCells (M.drop k))[j]? = some u → (Z.alloc (.cells #[] 26)).cell? (ad.add j) = some u) := Lib.hid (fun ad h j u hu => drop_new hownZ.out h hk j u hu)
                go_wp2_with (at_builtin; go_loud (refine wpList_append_from _ rfl _ _ 22 rfl Z.heap.size 26 i0 zeroS.val 9 136 Try.underlying22 hi0 hz0 hz1 hz2 rfl (by decide) _ _ _ rfl (own_empty Z _ 9) (some ⟨g1, k * 9, none⟩) (M.length - k) (c - k) (stCells (M.drop k)) rfl (drop_cells M k) (fun h => by cases h) Hc.out (stCells_one _) (by unfold maxLen; omega) (by omega) (by simp) ?_))
                intro v7 w3 hown7 hgrow7
                have hb3 : Below Z.heap.size Z w3 := ((Below.refl _ _).alloc (Nat.le_refl _) _).grown hgrow7 (by simp) (fun k hk => by simp [Value.ownBlock] at hk; omega)
                try simp only [Nat.zero_add, List.nil_append] at hown7
                obtain ⟨A7, c7, rfl, hat7⟩ := at_drop (M := M) (k := k) hown7
                have HA7 := Lib.hid hat7
                have hown3 := Lib.hid (own_keep hownZ.out hb3)
                have hz3 := hb3.size
                have e0 := (hb3.cell (p := ⟨wr.heap.size, 0, none⟩) hszZ).trans e0
                have e1 := (hb3.cell (p := ⟨wr.heap.size, 1, none⟩) hszZ).trans e1
                have e2 := (hb3.cell (p := ⟨wr.heap.size, 2, none⟩) hszZ).trans e2
                have e3 := (hb3.cell (p := ⟨wr.heap.size, 3, none⟩) hszZ).trans e3
                have e4 := (hb3.cell (p := ⟨wr.heap.size, 4, none⟩) hszZ).trans e4
                have e5 := (hb3.cell (p := ⟨wr.heap.size, 5, none⟩) hszZ).trans e5
                have e6 := (hb3.cell (p := ⟨wr.heap.size, 6, none⟩) hszZ).trans e6
                have e7 := (hb3.cell (p := ⟨wr.heap.size, 7, none⟩) hszZ).trans e7
                have e8 := (hb3.cell (p := ⟨wr.heap.size, 8, none⟩) hszZ).trans e8
                have hbY := Lib.hid (hbZ.out.trans (hb3.mono (by omega)))
                have hol : Hid (∀ b, (some ⟨g1, 0, none⟩ : Option Addr) = some b → ∀ j u, (stCells (M.take k))[j]? = some u → (w3.drew.alloc (.cells #[.int .i64 k1, .string ho, .string hn, .string wh, .string ao, .string an, .string bo, .string bn, .string v] 26)).cell? (b.add j) = some u) := Lib.hid (olds_at hown3.out hk)
                have hnw := Lib.hid (new_at w3.drew ⟨k1, ⟨ho, hn⟩, wh, ⟨ao, an⟩, ⟨bo, bn⟩, v⟩)
                skip
                clear hown7 hgrow7 hat7 hown3 hownZ hb3 Hc
                go_wp2_with fail
                go_region_law (first | (refine step_append_grows rfl (.tmp 39) (.tmp 41) 22 rfl 26 i0 zeroS.val 9 136 Try.underlying22 hi0 hz0 hz1 hz2 rfl (by decide) (some ⟨g1, 0, none⟩) k k (stCells (M.take k)) (by simp [Act.eval]) (fun h => by cases h) (take_cells M k hk) (hol.out) ⟨w3.heap.size, 0, none⟩ 1 1 (St.cells ⟨k1, ⟨ho, hn⟩, wh, ⟨ao, an⟩, ⟨bo, bn⟩, v⟩) (by simp [Act.eval]) rfl hnw.out (SynDA.stcell_one _) (by omega) (by unfold maxLen; omega) (by omega) ?_; intro v4 w4 hown4 hgrow4) | (refine step_append_from rfl (.tmp 42) (.tmp 43) 22 rfl (w3.drew.alloc (.cells #[.int .i64 k1, .string ho, .string hn, .string wh, .string ao, .string an, .string bo, .string bn, .string v] 26)).heap.size 26 i0 zeroS.val 9 136 Try.underlying22 hi0 hz0 hz1 hz2 rfl (by decide) v4 (k + 1) (stCells (M.take k) ++ St.cells ⟨k1, ⟨ho, hn⟩, wh, ⟨ao, an⟩, ⟨bo, bn⟩, v⟩) (by simp [Act.eval]) hown4 A7 (M.length - k) c7 (stCells (M.drop k)) (by simp [Act.eval]) (drop_cells M k) (rest_none HA7.out) (rest_at HA7.out hgrow4) (stCells_one _) (by unfold maxLen; omega) (by omega) (by have := hgrow4.size; exact this) ?_; intro v5 w5 hown5 hgrow5))
                all_goals
                  obtain ⟨A5, c5, rfl, hF⟩ := own_put (B := w.heap.size) hown5 hk (hstep.out.trans hins.out) (by simp; omega)
                  have hFin := Lib.hid (below_fin hbY.out (by omega) hown4 hgrow4 hgrow5)
                  go_wp2_with fail
                  go_roundg (L.length - (i + 1))
                  case measure => omega
                  case rel => exact ⟨i + 1, c5, A5, by omega, Nat.le_refl _, by go_num, rfl, Lib.hid hF, hFin.out⟩
    · obtain rfl : i = L.length := by omega
      have hfin : Hid (SortPost L w (.returned (.slice A (sortL cmpS [] L).length c)) wr) := Lib.hid (by
        have h := hown.out
        rw [List.take_of_length_le (Nat.le_refl _)] at h
        obtain ⟨A', c', e, _, hr⟩ := StRow.of_own h
        injection e with e1 e2 e3
        subst e1
        exact ⟨A, c, rfl, hr, hbel⟩)
      have hlen : Hid (sortL cmpS [] (L.take L.length) = sortL cmpS [] L) := Lib.hid (by rw [List.take_of_length_le (Nat.le_refl _)])
      rw [hlen.out]
      clear hown hlen
      go_wp2_with fail
      go_ret
      exact hfin.out
end Go.Proofs.Ytpjacngbkohmdaa.SynDB
/- The document's answers of layer 10, by contract: Has of roles anywhere, Of, MayCome, Reaches. -/
namespace Go.Proofs.Ytpjacngbkohmdaa.StI
set_option linter.unusedVariables false
set_option linter.unusedSimpArgs false
open Go.Shelf Go.RowKit Go.Sort Go.Lib Go.Proofs Go.Proofs.Ytpjacngbkohmdaa.Plain Go.Proofs.Ytpjacngbkohmdaa.SynP Go.Proofs.Ytpjacngbkohmdaa.Grown Go.Proofs.Ytpjacngbkohmdaa.SynC Go.Proofs.Ytpjacngbkohmdaa.SynD Go.Proofs.Ytpjacngbkohmdaa.SynD2 Go.Proofs.Ytpjacngbkohmdaa.SynD3 Go.Proofs.Ytpjacngbkohmdaa.QryP Go.Proofs.Ytpjacngbkohmdaa.PolA Go.Proofs.Ytpjacngbkohmdaa.PolE Go.Proofs.Ytpjacngbkohmdaa.StA Go.Proofs.Ytpjacngbkohmdaa.StB Go.Proofs.Ytpjacngbkohmdaa.StC Go.Proofs.Ytpjacngbkohmdaa.StD Go.Proofs.Ytpjacngbkohmdaa.StE Go.Proofs.Ytpjacngbkohmdaa.StF Go.Proofs.Ytpjacngbkohmdaa.StG Go.Proofs.Ytpjacngbkohmdaa.StH
set_option linter.unusedVariables false
set_option linter.unusedSimpArgs false
set_option maxHeartbeats 1000000 in
set_option maxRecDepth 100000 in
theorem hasRefG (A : Option Addr) (ca : Nat) (L : List Rl) (s : Rl) (w : World) (hL : L.length ≤ 1000) (hA : RG w A L) :
    Calls Try.prog 29 #[.slice A L.length ca, s.val] w fun e w' => e = .returned (.bool (decide (s ∈ L))) ∧ RowKit.Below w.heap.size w w' := by
  obtain ⟨ho, hn⟩ := s
  have hown : ∀ (wr : World), Below (w.heap.size + 1) (w.alloc (.cells #[.string ho, .string hn] 24)) wr → wr.cell? ⟨w.heap.size, 0, none⟩ = some (.string ho) ∧ wr.cell? ⟨w.heap.size, 1, none⟩ = some (.string hn) := fun wr hb => by
    refine ⟨?_, ?_⟩ <;> rw [hb.cell (by simp)] <;> rw [Lib.cell_of_heap (heap_alloc_new w _)] <;> rfl
  have HO := Lib.hid hown
  clear hown
  have HA := Lib.hid hA
  clear hA
  unfold Rl.val
  go_enter Try.func29, Try.ntmps29
  go_wp2_with fail
  go_loopw [9] (fun i wr => ∃ k : Nat, k ≤ L.length ∧ i = .int .i64 k ∧ Hid ((⟨ho, hn⟩ : Rl) ∉ L.take k) ∧ Below (w.heap.size + 1) (w.alloc (.cells #[.string ho, .string hn] 24)) wr) (fun i _ => L.length - (intOf i).toNat)
  case atStart => exact ⟨0, by omega, rfl, Lib.hid (by simp), Below.refl _ _⟩
  case round =>
    obtain ⟨k, hk, rfl, hrun, hbel⟩ := hrel
    have hb0 : Below w.heap.size w wr := ((Below.refl w.heap.size w).alloc (Nat.le_refl _) _).trans (hbel.mono (by omega))
    have hsz : w.heap.size + 1 ≤ wr.heap.size := by have := hbel.size; simpa using this
    by_cases hlt : k < L.length
    · obtain ⟨g1, o1, rfl, hg1, h1⟩ := (HA.out.below hb0) (by omega)
      obtain ⟨a0, a1⟩ := h1 k hlt
      obtain ⟨b0, b1⟩ := HO.out _ (hbel.alloc hsz (.cells #[.string L[k].owner, .string L[k].name] 24))
      have p1 : (0 : Int) ≤ k := by omega
      have p2 : (k : Int) < L.length := by omega
      clear h1
      by_cases he : L[k] = (⟨ho, hn⟩ : Rl)
      · have hfin : Hid (decide ((⟨ho, hn⟩ : Rl) ∈ L) = true) := Lib.hid (decide_eq_true (he ▸ List.getElem_mem hlt))
        have hq := fun w => SynE.eqR L[k].owner L[k].name ho hn w
        rw [decide_eq_true (p := (⟨L[k].owner, L[k].name⟩ : Rl) = ⟨ho, hn⟩) he] at hq
        clear hrun he
        go_wp2_with fail
        go_ret
        exact ⟨ret_bool hfin.out.symm, hb0.alloc hb0.size _⟩
      · have hnext : Hid ((⟨ho, hn⟩ : Rl) ∉ L.take (k + 1)) := Lib.hid (by
          rw [List.take_succ_eq_append_getElem hlt, List.mem_append, List.mem_singleton]
          rintro (h | h)
          · exact hrun.out h
          · exact he h.symm)
        have hq := fun w => SynE.eqR L[k].owner L[k].name ho hn w
        rw [decide_eq_false (p := (⟨L[k].owner, L[k].name⟩ : Rl) = ⟨ho, hn⟩) he] at hq
        clear hrun he
        go_wp2_with fail
        go_roundw
        case rel => exact ⟨k + 1, by omega, by go_num, hnext, hbel.alloc hsz _⟩
        case measure => simp [intOf]; omega
    · have hfin : Hid (decide ((⟨ho, hn⟩ : Rl) ∈ L) = false) := Lib.hid (decide_eq_false (by
        have := hrun.out
        rwa [List.take_of_length_le (by omega)] at this))
      clear hrun
      go_wp2_with fail
      go_ret
      exact ⟨ret_bool hfin.out.symm, hb0⟩
set_option maxRecDepth 100000 in
theorem refCome (p : Py) (A1 A2 A3 A4 : Option Addr) (c1 c2 c3 c4 : Nat) (s : St) (w : World) (hg : p.grow.length ≤ 1000) (hA : RG w A2 p.grow) (hf : s.fit) :
    Calls Try.prog 27 #[p.val A1 A2 A3 A4 c1 c2 c3 c4, s.val] w fun e w' => e = .returned (.bool (come p s)) ∧ Below w.heap.size w w' := by
  obtain ⟨S, G, H, Q⟩ := p
  have HRi := Lib.hid (fun w' => Syn9.rightRef s w' hf)
  have HHa := Lib.hid (fun w' (h : RG w' A2 G) => hasRefG A2 c2 G s.head w' hg h)
  unfold come
  generalize s.right = r at *
  obtain ⟨k1, ⟨ho, hn⟩, wh, ⟨ao, an⟩, ⟨bo, bn⟩, v1⟩ := s
  unfold St.val at HRi ⊢
  unfold Rl.val at HHa
  dsimp only at HRi HHa ⊢
  generalize decide ((⟨ho, hn⟩ : Rl) ∈ G) = m at *
  obtain ⟨hbX, d1, d2⟩ := two w A1 A2 A3 A4 c1 c2 c3 c4 S G H Q k1 ho hn wh ao an bo bn v1
  have HAX := Lib.hid (hA.below hbX)
  have HB := Lib.hid hbX
  clear hbX hA hf
  show Calls _ _ #[.agg #[.slice A1 S.length c1, .slice A2 G.length c2, .slice A3 H.length c3, .slice A4 Q.length c4], _] _ _
  go_enter Try.func27, Try.ntmps27
  go_upto_region 1 with fail
  have hz : ((w.alloc (.cells #[.slice A1 S.length c1, .slice A2 G.length c2, .slice A3 H.length c3, .slice A4 Q.length c4] 40)).alloc (.cells #[.int .i64 k1, .string ho, .string hn, .string wh, .string ao, .string an, .string bo, .string bn, .string v1] 26)).heap.size = w.heap.size + 2 := by simp
  obtain ⟨b1, hb1⟩ : ∃ b1, w.heap.size = b1 := ⟨_, rfl⟩
  rw [hb1] at d1 hz
  simp only [hb1] at d2 ⊢
  obtain ⟨b2, hb2⟩ : ∃ b2, b1 + 1 = b2 := ⟨_, rfl⟩
  rw [hb2] at d2
  simp only [hb2] at ⊢
  generalize (w.alloc (.cells #[.slice A1 S.length c1, .slice A2 G.length c2, .slice A3 H.length c3, .slice A4 Q.length c4] 40)).alloc (.cells #[.int .i64 k1, .string ho, .string hn, .string wh, .string ao, .string an, .string bo, .string bn, .string v1] 26) = w0 at *
  have HD := Lib.hid (fun w' (hb : Below w0.heap.size w0 w') => (⟨fun o => (hb.cell (p := ⟨b1, o, none⟩) (by show b1 < _; omega)).trans (d1 o), fun o => (hb.cell (p := ⟨b2, o, none⟩) (by show b2 < _; omega)).trans (d2 o)⟩ : (∀ o, w'.cell? ⟨b1, o, none⟩ = (#[.slice A1 S.length c1, .slice A2 G.length c2, .slice A3 H.length c3, .slice A4 Q.length c4] : Array Value)[o]?) ∧ ∀ o, w'.cell? ⟨b2, o, none⟩ = (#[.int .i64 k1, .string ho, .string hn, .string wh, .string ao, .string an, .string bo, .string bn, .string v1] : Array Value)[o]?))
  clear hb1 hb2 hz
  go_wp2_with fail
  refine (HRi.out _).mono ?_
  rintro e w1 ⟨rfl, hg1⟩
  have HB1 := Lib.hid hg1.below
  obtain ⟨e1, e2⟩ := HD.out w1 hg1.below
  clear hg1 d1 d2 HRi HD
  cases r with
  | false =>
    go_wp2_with fail
    go_ret
    exact ⟨rfl, nx HB.out HB1.out⟩
  | true =>
    have HH1 := Lib.hid (HHa.out w1 (HAX.out.below HB1.out))
    clear HHa HAX
    go_wp2_with fail
    refine HH1.out.mono ?_
    rintro e w2 ⟨rfl, hb2⟩
    have HB2 := Lib.hid (nx HB.out (nx HB1.out hb2))
    clear hb2 e1 e2 HH1
    go_wp2_with fail
    go_ret
    exact ⟨ret_bool (by first | rfl | simp), HB2.out⟩
def RowPost (R : List St) (w : World) (e : Ending) (w' : World) : Prop := ∃ A c, e = .returned (.slice A R.length c) ∧ SG w' A R ∧ Below w.heap.size w w'
theorem sg_own {w : World} {B : Nat} {v : Value} {T : List St} (h : w.ownsRow B 26 9 v T.length (stCells T)) : ∃ A c, v = .slice A T.length c ∧ SG w A T := by
  obtain ⟨A, c, e, _, hr⟩ := StRow.of_own h
  exact ⟨A, c, e, SG.of_row hr⟩
theorem snoc_cells (T : List St) (x : St) : stCells (T ++ [x]) = stCells T ++ x.cells := by rw [stCells_app]; simp [stCells]
set_option maxHeartbeats 1000000 in
set_option maxRecDepth 100000 in
theorem of_ (A B : Option Addr) (ca cb : Nat) (inn : Bool) (L M : List St) (w : World) (hL : L.length ≤ 1000) (hM : M.length ≤ 1000) (hA : SG w A L) (hB : SG w B M) :
    Calls Try.prog 19 #[.slice A L.length ca, .slice B M.length cb, .bool inn] w (RowPost ((sortL cmpS [] L).filter fun s => decide (s ∈ M) == inn) w) := by
  obtain ⟨i0, hi, hz0, hz1, hz2⟩ := info_parts PolK.infoStB
  have HSr := Lib.hid (SynDB.sortRef A ca L w hL hA.at_)
  have HMB := Lib.hid (fun w' (hb : Below w.heap.size w w') => hB.below hb)
  have hTl := sort_len L
  unfold SynDB.SortPost at HSr
  generalize sortL cmpS [] L = T at *
  clear hA hB
  go_enter Try.func19, Try.ntmps19
  go_wp2_with fail
  refine HSr.out.mono ?_
  rintro e w1 ⟨A1, c1, rfl, hrow, hb1⟩
  have HT := Lib.hid (fun w' (hb : Below w1.heap.size w1 w') => (SG.of_row hrow).below hb)
  have HB1 := Lib.hid hb1
  clear hrow hb1 HSr
  go_wp2_with fail
  go_loopw [7, 13] (fun v i wr => ∃ j : Nat, j ≤ T.length ∧ i = .int .i64 j ∧ Hid (wr.ownsRow w1.heap.size 26 9 v ((T.take j).filter fun s => decide (s ∈ M) == inn).length (stCells ((T.take j).filter fun s => decide (s ∈ M) == inn))) ∧ Below w1.heap.size w1 wr) (fun _ i _ => T.length - (intOf i).toNat)
  case atStart => exact ⟨0, by omega, rfl, Lib.hid (by simpa [stCells] using World.ownsRow_nil w1 w1.heap.size 26 9), Below.refl _ _⟩
  case round =>
    obtain ⟨j, hj, rfl, hown, hb⟩ := hrel
    by_cases hlt : j < T.length
    · have e1 : decide ((j : Int) < T.length) = true := by simp; omega
      obtain ⟨A3, c3, rfl, _⟩ := sg_own hown.out
      obtain ⟨g, o, rfl, hg, hc⟩ := HT.out _ hb (by omega)
      obtain ⟨a0, a1, a2, a3, a4, a5, a6, a7, a8⟩ := hc j hlt
      have p1 : (0 : Int) ≤ j := by omega
      have p2 : (j : Int) < T.length := by omega
      have hft : (T.take (j + 1)).filter (fun s => decide (s ∈ M) == inn) = (T.take j).filter (fun s => decide (s ∈ M) == inn) ++ if (decide (T[j] ∈ M) == inn) then [T[j]] else [] := by
        rw [List.take_succ_eq_append_getElem hlt, List.filter_append]
        cases h : (decide (T[j] ∈ M) == inn) <;> simp [h]
      have HFT := Lib.hid hft
      have hfl : ((T.take j).filter (fun s => decide (s ∈ M) == inn)).length ≤ 1000 := by
        have h := List.length_filter_le (fun s => decide (s ∈ M) == inn) (T.take j)
        rw [List.length_take] at h
        omega
      have HH := Lib.hid (fun w' (h : SG w' B M) => hasG B cb M T[j] w' hM h)
      have HB := Lib.hid hb
      clear hc hb hg hft
      generalize (T.take j).filter (fun s => decide (s ∈ M) == inn) = R at *
      generalize T[j] = x at *
      obtain ⟨k1, ⟨ho, hn⟩, wh, ⟨ao, an⟩, ⟨bo, bn⟩, v1⟩ := x
      unfold St.val at HH
      dsimp only at HH a0 a1 a2 a3 a4 a5 a6 a7 a8
      generalize decide ((⟨k1, ⟨ho, hn⟩, wh, ⟨ao, an⟩, ⟨bo, bn⟩, v1⟩ : St) ∈ M) = d at *
      have hbX := below_alloc wr (.cells #[.int .i64 k1, .string ho, .string hn, .string wh, .string ao, .string an, .string bo, .string bn, .string v1] 26)
      have HX := Lib.hid (heap_alloc_new wr (.cells #[.int .i64 k1, .string ho, .string hn, .string wh, .string ao, .string an, .string bo, .string bn, .string v1] 26))
      have HBX := Lib.hid (nx HB.out hbX)
      have HC := Lib.hid (HH.out _ (HMB.out _ (nx HB1.out HBX.out)))
      have HO := Lib.hid (SynDA.own_keep hown.out hbX)
      have hz : (wr.alloc (.cells #[.int .i64 k1, .string ho, .string hn, .string wh, .string ao, .string an, .string bo, .string bn, .string v1] 26)).heap.size = wr.heap.size + 1 := by simp
      have hzz := HB.out.size
      clear hbX HH
      go_upto_region 5 with fail
      obtain ⟨bx, hbx⟩ : ∃ bx, wr.heap.size = bx := ⟨_, rfl⟩
      rw [hbx] at HX hz hzz
      simp only [hbx] at ⊢
      generalize wr.alloc (.cells #[.int .i64 k1, .string ho, .string hn, .string wh, .string ao, .string an, .string bo, .string bn, .string v1] 26) = w0 at *
      have cx := fun o => Lib.cell_of_heap HX.out o
      clear a0 a1 a2 a3 a4 a5 a6 a7 a8 hown hbx
      cases hq : (d == inn) with
      | false =>
        rw [hq] at HFT
        go_wp2_with fail
        refine HC.out.mono ?_
        rintro e w2 ⟨rfl, hb2⟩
        have HB2 := Lib.hid (nx HBX.out hb2)
        have HO2 := Lib.hid (SynDA.own_keep HO.out hb2)
        clear hb2 cx HC HO
        go_wp2_with fail
        go_roundw
        case rel => exact ⟨j + 1, by omega, by go_num, by rw [HFT.out]; simpa using HO2, HB2.out⟩
        case measure => simp [intOf]; omega
      | true =>
        rw [hq] at HFT
        go_wp2_with fail
        refine HC.out.mono ?_
        rintro e w2 ⟨rfl, hb2⟩
        have hc2 : ∀ o, w2.cell? ⟨bx, o, none⟩ = (#[.int .i64 k1, .string ho, .string hn, .string wh, .string ao, .string an, .string bo, .string bn, .string v1] : Array Value)[o]? := fun o => Lib.cell_of_heap ((hb2.block bx (by omega)).trans HX.out) o
        have hbY := below_alloc w2 (.cells #[.int .i64 k1, .string ho, .string hn, .string wh, .string ao, .string an, .string bo, .string bn, .string v1] 26)
        have HBY := Lib.hid (nx HBX.out (nx hb2 hbY))
        have hownW := SynDA.own_keep HO.out (nx hb2 hbY)
        have zW := HBY.out.size
        have H1 := Lib.hid (PolK.src_new (X := w2) rfl [.int .i64 k1, .string ho, .string hn, .string wh, .string ao, .string an, .string bo, .string bn, .string v1] 26)
        clear hb2 hbY cx HC HO
        go_wp2_with (at_builtin; refine wpList_append_from _ rfl _ _ 22 rfl w1.heap.size 26 i0 zeroS.val 9 136 Try.underlying22 hi hz0 hz1 hz2 rfl (by decide) _ _ _ rfl hownW (some ⟨w2.heap.size, 0, none⟩) 1 1 [.int .i64 k1, .string ho, .string hn, .string wh, .string ao, .string an, .string bo, .string bn, .string v1] rfl rfl (fun h => by cases h) H1.out (fun u hu => by simp at hu; rcases hu with rfl | rfl | rfl | rfl | rfl | rfl | rfl | rfl | rfl <;> rfl) (by unfold maxLen; omega) (by omega) zW ?_)
        intro v2 w3 hown3 hgrow
        have hb3 := Lib.hid (HBY.out.grown hgrow zW (fun k hk => (hownW.lt k hk).1))
        have HO3 : Hid (w3.ownsRow w1.heap.size 26 9 v2 ((T.take (j + 1)).filter fun s => decide (s ∈ M) == inn).length (stCells ((T.take (j + 1)).filter fun s => decide (s ∈ M) == inn))) := Lib.hid (by
          rw [HFT.out, if_pos trivial, snoc_cells, List.length_append]
          exact hown3)
        clear hownW hgrow hown3 hc2
        go_wp2_with fail
        go_roundw
        case rel => exact ⟨j + 1, by omega, by go_num, HO3, hb3.out⟩
        case measure => simp [intOf]; omega
    · have e1 : decide ((j : Int) < T.length) = false := by simp; omega
      have hown2 := hown.out
      rw [List.take_of_length_le (by omega)] at hown2
      obtain ⟨A3, c3, rfl, hS3⟩ := sg_own hown2
      have HE : Hid (RowPost (T.filter fun s => decide (s ∈ M) == inn) w (.returned (.slice A3 (T.filter fun s => decide (s ∈ M) == inn).length c3)) wr) := Lib.hid ⟨A3, c3, rfl, hS3, nx HB1.out hb⟩
      clear hown hown2 hS3 hb
      go_wp2_with fail
      go_ret
      exact HE.out
end Go.Proofs.Ytpjacngbkohmdaa.StI
