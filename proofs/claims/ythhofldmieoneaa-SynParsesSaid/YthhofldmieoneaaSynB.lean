/- For all statements and every line: a statement that may be is parsed from its line; two are one just if their lines are; what is parsed may be; and the document's example stands. No condition. -/
import Derived.Test.YthhofldmieoneaaRows
import Derived.Test.YthhofldmieoneaaSynF
import Derived.Test.YthhofldmieoneaaSynM
import Derived.Test.YthhofldmieoneaaSynE
import Derived.Deep.RegionHeld3
namespace Go.Proofs.Ythhofldmieoneaa.SynB
open Go.RowKit Go.Sort Go.Proofs Go.Proofs.Ythhofldmieoneaa.Plain Go.Proofs.Ythhofldmieoneaa.SynP Go.Proofs.Ythhofldmieoneaa.SynQ Go.Proofs.Ythhofldmieoneaa.Grown Go.Proofs.Ythhofldmieoneaa.Scan3 Go.Proofs.Ythhofldmieoneaa.SynE Go.Proofs.Ythhofldmieoneaa.Syn1 Go.Proofs.Ythhofldmieoneaa.Syn4 Go.Proofs.Ythhofldmieoneaa.Syn7 Go.Proofs.Ythhofldmieoneaa.SynL Go.Proofs.Ythhofldmieoneaa.SynM Go.Proofs.Ythhofldmieoneaa.SynN Go.Proofs.Ythhofldmieoneaa.SynR Go.Proofs.Ythhofldmieoneaa.SynV Go.Proofs.Ythhofldmieoneaa.SynW Go.Proofs.Ythhofldmieoneaa.SynX Go.Proofs.Ythhofldmieoneaa.SynY Go.Proofs.Ythhofldmieoneaa.SynZ
set_option linter.unusedVariables false
set_option linter.unusedSimpArgs false
/-- A block of a world, known by its cells. -/
def Box (w : World) (n : Nat) (A : Array Value) : Prop := n < w.heap.size ∧ ∀ o, w.cell? ⟨n, o, none⟩ = A[o]?
theorem Box.below {w w' : World} {n : Nat} {A : Array Value} (h : Box w n A) (hb : RowKit.Below w.heap.size w w') : Box w' n A :=
  ⟨Nat.lt_of_lt_of_le h.1 hb.size, fun o => (hb.cell (p := ⟨n, o, none⟩) h.1).trans (h.2 o)⟩
theorem Box.new (w : World) (A : Array Value) (t : TypeId) : Box (w.alloc (.cells A t)) w.heap.size A := ⟨by simp, fun o => Lib.cell_of_heap (heap_alloc_new w _) o⟩
theorem Box.alloc {w : World} {n : Nat} {A : Array Value} (h : Box w n A) (o : Obj) : Box (w.alloc o) n A := h.below ((Below.refl _ _).alloc (Nat.le_refl _) o)
/-- What is parsed: an error, or a statement that is right. -/
theorem parse_cases (t : ByteArray) : (∃ c e, parseA (ansOf t) = (zeroS, c, e) ∧ e ≠ 0) ∨ (∃ x : St, parseA (ansOf t) = (x, 0, 0) ∧ x.right = true) := by
  cases h : ansOf t with
  | bad c e => exact .inl ⟨c, e, rfl, by rcases ans_bad h with rfl | rfl <;> decide⟩
  | ok L =>
    have hg := fun t ht => (ans_good h t ht).1
    by_cases hm : ∀ j, j < 4 → kindsOf L ≠ shapeK (j + 1)
    · left
      show ∃ c e, parseL L = _ ∧ _
      rw [parseL_miss hm]
      split
      · exact ⟨_, _, rfl, by decide⟩
      · exact ⟨_, _, rfl, by decide⟩
    · right
      have : ∃ j, j < 4 ∧ kindsOf L = shapeK (j + 1) := by
        rcases Classical.em (∃ j, j < 4 ∧ kindsOf L = shapeK (j + 1)) with h | h
        · exact h
        · exact absurd (fun j hj e => h ⟨j, hj, e⟩) hm
      obtain ⟨j, hj, e⟩ := this
      exact ⟨_, parseL_hit (by omega) (by omega) e, stmt_right (by omega) (by omega) hg e⟩
theorem line_some {s : St} (h : s.right = true) : (line s).toList.isEmpty = false := by
  rw [line_right h]
  have : 0 < (textR s.head ++ arr ++ body s).size := by
    rw [ByteArray.size_append, ByteArray.size_append]
    show 0 < _ + 4 + _
    omega
  exact toList_isEmpty this
theorem right_fit {s : St} (h : s.right = true) : s.fit := by
  obtain ⟨hh, hc⟩ := right_all h
  have f0 := ok_small hh
  have m : ∀ n : Nat, n ≤ 1000 → n ≤ maxLen := fun n hn => by unfold maxLen; omega
  have z : noText.size ≤ maxLen := by unfold maxLen; decide
  have zR : zeroR.light := ⟨z, z⟩
  rcases hc with ⟨_, hw, ea, eb, ev⟩ | ⟨_, ew, ha, eb, ev⟩ | ⟨_, ew, ha, eb, hv⟩ | ⟨_, ew, ha, hb, _, ev⟩
  · exact ⟨⟨m _ f0.1, m _ f0.2⟩, m _ (named_small hw), ea ▸ zR, eb ▸ zR, ev ▸ z⟩
  · exact ⟨⟨m _ f0.1, m _ f0.2⟩, ew ▸ z, ⟨m _ (ok_small ha).1, m _ (ok_small ha).2⟩, eb ▸ zR, ev ▸ z⟩
  · exact ⟨⟨m _ f0.1, m _ f0.2⟩, ew ▸ z, ⟨m _ (ok_small ha).1, m _ (ok_small ha).2⟩, eb ▸ zR, m _ (named_small hv)⟩
  · exact ⟨⟨m _ f0.1, m _ f0.2⟩, ew ▸ z, ⟨m _ (ok_small ha).1, m _ (ok_small ha).2⟩, ⟨m _ (ok_small hb).1, m _ (ok_small hb).2⟩, ev ▸ z⟩
theorem line_small {s : St} (h : s.right = true) : (line s).size ≤ 1000000 := by
  obtain ⟨L, hL, _⟩ := parse_line h
  unfold ansOf at hL
  split at hL
  · cases hL
  · omega
/-- Two right statements are one just if their lines are. -/
theorem line_inj {s t : St} (hs : s.right = true) (ht : t.right = true) (h : line s = line t) : s = t := by
  obtain ⟨L, h1, h2⟩ := parse_line hs
  obtain ⟨M, h3, h4⟩ := parse_line ht
  rw [h, h3] at h1
  injection h1 with e
  subst e
  rw [h4] at h2
  exact (congrArg (fun p : St × Int × Int => p.1) h2).symm
theorem keep3 {W w1 w2 : World} {n m p : Nat} {f g h : Nat → Option Value} (hh : RowKit.Below W.heap.size W w1 ∧ (∀ o, w1.cell? ⟨n, o, none⟩ = f o) ∧ (∀ o, w1.cell? ⟨m, o, none⟩ = g o) ∧ (∀ o, w1.cell? ⟨p, o, none⟩ = h o)) (hn : n < W.heap.size) (hm : m < W.heap.size) (hp : p < W.heap.size) (hb : RowKit.Below w1.heap.size w1 w2) :
    RowKit.Below W.heap.size W w2 ∧ (∀ o, w2.cell? ⟨n, o, none⟩ = f o) ∧ (∀ o, w2.cell? ⟨m, o, none⟩ = g o) ∧ (∀ o, w2.cell? ⟨p, o, none⟩ = h o) := by
  have hs := hh.1.size
  exact ⟨hh.1.trans (hb.mono hs), fun o => (hb.cell (p := ⟨n, o, none⟩) (by show n < _; omega)).trans (hh.2.1 o), fun o => (hb.cell (p := ⟨m, o, none⟩) (by show m < _; omega)).trans (hh.2.2.1 o), fun o => (hb.cell (p := ⟨p, o, none⟩) (by show p < _; omega)).trans (hh.2.2.2 o)⟩
set_option maxHeartbeats 4000000 in
set_option maxRecDepth 100000 in
theorem back1 (k1 : Int) (ho1 hn1 wh1 ao1 an1 bo1 bn1 v1 : ByteArray) (k2 : Int) (ho2 hn2 wh2 ao2 an2 bo2 bn2 v2 s : ByteArray) (w : World) (hs : s.size ≤ maxLen) (la0 : lightS ⟨k1, ⟨ho1, hn1⟩, wh1, ⟨ao1, an1⟩, ⟨bo1, bn1⟩, v1⟩ = false) : Calls Try.prog 6 #[.agg #[.int .i64 k1, .string ho1, .string hn1, .string wh1, .string ao1, .string an1, .string bo1, .string bn1, .string v1], .agg #[.int .i64 k2, .string ho2, .string hn2, .string wh2, .string ao2, .string an2, .string bo2, .string bn2, .string v2], .string s] w fun e w' => e = .returned (.bool true) ∧ RowKit.Below w.heap.size w w' := by
  unfold maxLen at hs
  have hla := light ⟨k1, ⟨ho1, hn1⟩, wh1, ⟨ao1, an1⟩, ⟨bo1, bn1⟩, v1⟩
  unfold St.val at hla
  rw [la0] at hla
  have HLa := Lib.hid hla
  clear hla
  clear la0
  go_enter Try.func6, Try.ntmps6
  go_wp2_with fail
  have hsz : (s.extract 0 (min (s.size : Int) 300).toNat).size ≤ 1000000 := by
    rw [ByteArray.size_extract]; omega
  generalize s.extract 0 (min (s.size : Int) 300).toNat = t at *
  have hp := fun w => parse t w hsz
  have hA0 : Box ((w.alloc (.cells #[.int .i64 k1, .string ho1, .string hn1, .string wh1, .string ao1, .string an1, .string bo1, .string bn1, .string v1] 25)).alloc (.cells #[.int .i64 k2, .string ho2, .string hn2, .string wh2, .string ao2, .string an2, .string bo2, .string bn2, .string v2] 25)) w.heap.size #[.int .i64 k1, .string ho1, .string hn1, .string wh1, .string ao1, .string an1, .string bo1, .string bn1, .string v1] := (Box.new w _ _).alloc _
  have hB0 : Box ((w.alloc (.cells #[.int .i64 k1, .string ho1, .string hn1, .string wh1, .string ao1, .string an1, .string bo1, .string bn1, .string v1] 25)).alloc (.cells #[.int .i64 k2, .string ho2, .string hn2, .string wh2, .string ao2, .string an2, .string bo2, .string bn2, .string v2] 25)) (w.heap.size + 1) #[.int .i64 k2, .string ho2, .string hn2, .string wh2, .string ao2, .string an2, .string bo2, .string bn2, .string v2] := by
    have := Box.new (w.alloc (.cells #[.int .i64 k1, .string ho1, .string hn1, .string wh1, .string ao1, .string an1, .string bo1, .string bn1, .string v1] 25)) #[.int .i64 k2, .string ho2, .string hn2, .string wh2, .string ao2, .string an2, .string bo2, .string bn2, .string v2] 25
    rw [World.size_alloc] at this
    exact this
  have hb0 : RowKit.Below w.heap.size w ((w.alloc (.cells #[.int .i64 k1, .string ho1, .string hn1, .string wh1, .string ao1, .string an1, .string bo1, .string bn1, .string v1] 25)).alloc (.cells #[.int .i64 k2, .string ho2, .string hn2, .string wh2, .string ao2, .string an2, .string bo2, .string bn2, .string v2] 25)) := ((Below.refl _ _).alloc (Nat.le_refl _) _).alloc (by simp) _
  have HA0 := Lib.hid hA0
  have HB0 := Lib.hid hB0
  clear hA0 hB0
  rcases parse_cases t with ⟨c, er, hc, he⟩ | ⟨x, hc, hx⟩
  · rw [hc] at hp
    unfold zeroS zeroR noText at hp
    have HP := Lib.hid hp
    have e1 : (er == 0) = false := by simpa using he
    clear hc he hp
    refine (HP.out _).mono ?_
    rintro e w1 ⟨rfl, hb1⟩
    have HA1 := Lib.hid (HA0.out.below hb1)
    have HB1 := Lib.hid (HB0.out.below hb1)
    have hbw1 := hb0.trans (hb1.mono hb0.size)
    obtain ⟨la1, fa1⟩ := HA1.out
    obtain ⟨lb1, fb1⟩ := HB1.out
    have HA3 := Lib.hid (HA1.out.alloc (.cells #[.int .i64 0, .string ⟨#[]⟩, .string ⟨#[]⟩, .string ⟨#[]⟩, .string ⟨#[]⟩, .string ⟨#[]⟩, .string ⟨#[]⟩, .string ⟨#[]⟩, .string ⟨#[]⟩] 25))
    have HB3 := Lib.hid (HB1.out.alloc (.cells #[.int .i64 0, .string ⟨#[]⟩, .string ⟨#[]⟩, .string ⟨#[]⟩, .string ⟨#[]⟩, .string ⟨#[]⟩, .string ⟨#[]⟩, .string ⟨#[]⟩, .string ⟨#[]⟩] 25))
    have hbw3 := hbw1.alloc hbw1.size (.cells #[.int .i64 0, .string ⟨#[]⟩, .string ⟨#[]⟩, .string ⟨#[]⟩, .string ⟨#[]⟩, .string ⟨#[]⟩, .string ⟨#[]⟩, .string ⟨#[]⟩, .string ⟨#[]⟩] 25)
    clear hb1 HA0 HB0
    unfold St.val
    go_wp2_with fail
    clear la1 fa1 lb1 fb1 HA1 HB1 hbw1
    generalize w1.alloc (.cells #[.int .i64 0, .string ⟨#[]⟩, .string ⟨#[]⟩, .string ⟨#[]⟩, .string ⟨#[]⟩, .string ⟨#[]⟩, .string ⟨#[]⟩, .string ⟨#[]⟩, .string ⟨#[]⟩] 25) = w3 at *
    obtain ⟨la3, fa3⟩ := HA3.out
    obtain ⟨lb3, fb3⟩ := HB3.out
    refine (HLa.out _).mono ?_
    rintro e w4 ⟨rfl, hg⟩
    have HA4 := Lib.hid (HA3.out.below hg.below)
    have HB4 := Lib.hid (HB3.out.below hg.below)
    have hbw4 := hbw3.trans (hg.below.mono hbw3.size)
    clear la3 fa3 lb3 fb3 hbw3 HA3 HB3 hg
    obtain ⟨la4, fa4⟩ := HA4.out
    obtain ⟨lb4, fb4⟩ := HB4.out
    go_wp2_with fail
    refine (lives _).mono ?_
    rintro e wz ⟨rfl, hbz⟩
    go_wp2_with fail
    go_ret
    exact ⟨rfl, hbw4.trans (hbz.mono hbw4.size)⟩
  · rw [hc] at hp
    have hr := (right x · (right_fit hx))
    rw [hx] at hr
    have hpr := (print x · (right_fit hx))
    have hne := line_some hx
    unfold ParsePost St.val at hp
    unfold St.val at hr hpr
    have HP := Lib.hid hp
    have HR := Lib.hid hr
    have HPr := Lib.hid hpr
    clear hc hp hr hpr hx
    refine (HP.out _).mono ?_
    rintro e w1 ⟨rfl, hb1⟩
    have HA1 := Lib.hid (HA0.out.below hb1)
    have HB1 := Lib.hid (HB0.out.below hb1)
    have hbw1 := hb0.trans (hb1.mono hb0.size)
    have HX1 := Lib.hid (Box.new w1 #[.int .i64 x.kind, .string x.head.owner, .string x.head.name, .string x.who, .string x.a.owner, .string x.a.name, .string x.b.owner, .string x.b.name, .string x.via] 25)
    have HA1' := Lib.hid (HA1.out.alloc (.cells #[.int .i64 x.kind, .string x.head.owner, .string x.head.name, .string x.who, .string x.a.owner, .string x.a.name, .string x.b.owner, .string x.b.name, .string x.via] 25))
    have HB1' := Lib.hid (HB1.out.alloc (.cells #[.int .i64 x.kind, .string x.head.owner, .string x.head.name, .string x.who, .string x.a.owner, .string x.a.name, .string x.b.owner, .string x.b.name, .string x.via] 25))
    have hbw1' := hbw1.alloc hbw1.size (.cells #[.int .i64 x.kind, .string x.head.owner, .string x.head.name, .string x.who, .string x.a.owner, .string x.a.name, .string x.b.owner, .string x.b.name, .string x.via] 25)
    clear hb1 HA0 HB0 HA1 HB1 hbw1
    go_wp2_with fail
    refine (HR.out _).mono ?_
    rintro e w2 ⟨rfl, hg⟩
    have HX2 := Lib.hid (HX1.out.below hg.below)
    have HA2 := Lib.hid (HA1'.out.below hg.below)
    have HB2 := Lib.hid (HB1'.out.below hg.below)
    have hbw2 := hbw1'.trans (hg.below.mono hbw1'.size)
    clear HX1 HA1' HB1' hbw1' hg
    obtain ⟨lx2, fx2⟩ := HX2.out
    go_wp2_with fail
    refine (HPr.out _).mono ?_
    rintro e w3 ⟨rfl, hg⟩
    have HA3 := Lib.hid (HA2.out.below hg.below)
    have HB3 := Lib.hid (HB2.out.below hg.below)
    have hbw3 := hbw2.trans (hg.below.mono hbw2.size)
    clear HX2 HA2 HB2 hbw2 hg lx2 fx2
    obtain ⟨la3, fa3⟩ := HA3.out
    obtain ⟨lb3, fb3⟩ := HB3.out
    go_wp2_with fail
    refine (HLa.out _).mono ?_
    rintro e w4 ⟨rfl, hg⟩
    have HA4 := Lib.hid (HA3.out.below hg.below)
    have HB4 := Lib.hid (HB3.out.below hg.below)
    have hbw4 := hbw3.trans (hg.below.mono hbw3.size)
    clear la3 fa3 lb3 fb3 hbw3 HA3 HB3 hg
    obtain ⟨la4, fa4⟩ := HA4.out
    obtain ⟨lb4, fb4⟩ := HB4.out
    go_wp2_with fail
    refine (lives _).mono ?_
    rintro e wz ⟨rfl, hbz⟩
    go_wp2_with fail
    go_ret
    exact ⟨rfl, hbw4.trans (hbz.mono hbw4.size)⟩
set_option maxHeartbeats 4000000 in
set_option maxRecDepth 100000 in
theorem back2 (k1 : Int) (ho1 hn1 wh1 ao1 an1 bo1 bn1 v1 : ByteArray) (k2 : Int) (ho2 hn2 wh2 ao2 an2 bo2 bn2 v2 s : ByteArray) (w : World) (hs : s.size ≤ maxLen) (la0 : lightS ⟨k1, ⟨ho1, hn1⟩, wh1, ⟨ao1, an1⟩, ⟨bo1, bn1⟩, v1⟩ = true) (lb0 : lightS ⟨k2, ⟨ho2, hn2⟩, wh2, ⟨ao2, an2⟩, ⟨bo2, bn2⟩, v2⟩ = false) : Calls Try.prog 6 #[.agg #[.int .i64 k1, .string ho1, .string hn1, .string wh1, .string ao1, .string an1, .string bo1, .string bn1, .string v1], .agg #[.int .i64 k2, .string ho2, .string hn2, .string wh2, .string ao2, .string an2, .string bo2, .string bn2, .string v2], .string s] w fun e w' => e = .returned (.bool true) ∧ RowKit.Below w.heap.size w w' := by
  unfold maxLen at hs
  have hla := light ⟨k1, ⟨ho1, hn1⟩, wh1, ⟨ao1, an1⟩, ⟨bo1, bn1⟩, v1⟩
  unfold St.val at hla
  rw [la0] at hla
  have HLa := Lib.hid hla
  clear hla
  have hlb := light ⟨k2, ⟨ho2, hn2⟩, wh2, ⟨ao2, an2⟩, ⟨bo2, bn2⟩, v2⟩
  unfold St.val at hlb
  rw [lb0] at hlb
  have HLb := Lib.hid hlb
  clear hlb
  clear la0 lb0
  go_enter Try.func6, Try.ntmps6
  go_wp2_with fail
  have hsz : (s.extract 0 (min (s.size : Int) 300).toNat).size ≤ 1000000 := by
    rw [ByteArray.size_extract]; omega
  generalize s.extract 0 (min (s.size : Int) 300).toNat = t at *
  have hp := fun w => parse t w hsz
  have hA0 : Box ((w.alloc (.cells #[.int .i64 k1, .string ho1, .string hn1, .string wh1, .string ao1, .string an1, .string bo1, .string bn1, .string v1] 25)).alloc (.cells #[.int .i64 k2, .string ho2, .string hn2, .string wh2, .string ao2, .string an2, .string bo2, .string bn2, .string v2] 25)) w.heap.size #[.int .i64 k1, .string ho1, .string hn1, .string wh1, .string ao1, .string an1, .string bo1, .string bn1, .string v1] := (Box.new w _ _).alloc _
  have hB0 : Box ((w.alloc (.cells #[.int .i64 k1, .string ho1, .string hn1, .string wh1, .string ao1, .string an1, .string bo1, .string bn1, .string v1] 25)).alloc (.cells #[.int .i64 k2, .string ho2, .string hn2, .string wh2, .string ao2, .string an2, .string bo2, .string bn2, .string v2] 25)) (w.heap.size + 1) #[.int .i64 k2, .string ho2, .string hn2, .string wh2, .string ao2, .string an2, .string bo2, .string bn2, .string v2] := by
    have := Box.new (w.alloc (.cells #[.int .i64 k1, .string ho1, .string hn1, .string wh1, .string ao1, .string an1, .string bo1, .string bn1, .string v1] 25)) #[.int .i64 k2, .string ho2, .string hn2, .string wh2, .string ao2, .string an2, .string bo2, .string bn2, .string v2] 25
    rw [World.size_alloc] at this
    exact this
  have hb0 : RowKit.Below w.heap.size w ((w.alloc (.cells #[.int .i64 k1, .string ho1, .string hn1, .string wh1, .string ao1, .string an1, .string bo1, .string bn1, .string v1] 25)).alloc (.cells #[.int .i64 k2, .string ho2, .string hn2, .string wh2, .string ao2, .string an2, .string bo2, .string bn2, .string v2] 25)) := ((Below.refl _ _).alloc (Nat.le_refl _) _).alloc (by simp) _
  have HA0 := Lib.hid hA0
  have HB0 := Lib.hid hB0
  clear hA0 hB0
  rcases parse_cases t with ⟨c, er, hc, he⟩ | ⟨x, hc, hx⟩
  · rw [hc] at hp
    unfold zeroS zeroR noText at hp
    have HP := Lib.hid hp
    have e1 : (er == 0) = false := by simpa using he
    clear hc he hp
    refine (HP.out _).mono ?_
    rintro e w1 ⟨rfl, hb1⟩
    have HA1 := Lib.hid (HA0.out.below hb1)
    have HB1 := Lib.hid (HB0.out.below hb1)
    have hbw1 := hb0.trans (hb1.mono hb0.size)
    obtain ⟨la1, fa1⟩ := HA1.out
    obtain ⟨lb1, fb1⟩ := HB1.out
    have HA3 := Lib.hid (HA1.out.alloc (.cells #[.int .i64 0, .string ⟨#[]⟩, .string ⟨#[]⟩, .string ⟨#[]⟩, .string ⟨#[]⟩, .string ⟨#[]⟩, .string ⟨#[]⟩, .string ⟨#[]⟩, .string ⟨#[]⟩] 25))
    have HB3 := Lib.hid (HB1.out.alloc (.cells #[.int .i64 0, .string ⟨#[]⟩, .string ⟨#[]⟩, .string ⟨#[]⟩, .string ⟨#[]⟩, .string ⟨#[]⟩, .string ⟨#[]⟩, .string ⟨#[]⟩, .string ⟨#[]⟩] 25))
    have hbw3 := hbw1.alloc hbw1.size (.cells #[.int .i64 0, .string ⟨#[]⟩, .string ⟨#[]⟩, .string ⟨#[]⟩, .string ⟨#[]⟩, .string ⟨#[]⟩, .string ⟨#[]⟩, .string ⟨#[]⟩, .string ⟨#[]⟩] 25)
    clear hb1 HA0 HB0
    unfold St.val
    go_wp2_with fail
    clear la1 fa1 lb1 fb1 HA1 HB1 hbw1
    generalize w1.alloc (.cells #[.int .i64 0, .string ⟨#[]⟩, .string ⟨#[]⟩, .string ⟨#[]⟩, .string ⟨#[]⟩, .string ⟨#[]⟩, .string ⟨#[]⟩, .string ⟨#[]⟩, .string ⟨#[]⟩] 25) = w3 at *
    obtain ⟨la3, fa3⟩ := HA3.out
    obtain ⟨lb3, fb3⟩ := HB3.out
    refine (HLa.out _).mono ?_
    rintro e w4 ⟨rfl, hg⟩
    have HA4 := Lib.hid (HA3.out.below hg.below)
    have HB4 := Lib.hid (HB3.out.below hg.below)
    have hbw4 := hbw3.trans (hg.below.mono hbw3.size)
    clear la3 fa3 lb3 fb3 hbw3 HA3 HB3 hg
    obtain ⟨la4, fa4⟩ := HA4.out
    obtain ⟨lb4, fb4⟩ := HB4.out
    go_wp2_with fail
    refine (HLb.out _).mono ?_
    rintro e w5 ⟨rfl, hg⟩
    have HA5 := Lib.hid (HA4.out.below hg.below)
    have HB5 := Lib.hid (HB4.out.below hg.below)
    have hbw5 := hbw4.trans (hg.below.mono hbw4.size)
    clear la4 fa4 lb4 fb4 hbw4 HA4 HB4 hg
    obtain ⟨la5, fa5⟩ := HA5.out
    obtain ⟨lb5, fb5⟩ := HB5.out
    go_wp2_with fail
    refine (lives _).mono ?_
    rintro e wz ⟨rfl, hbz⟩
    go_wp2_with fail
    go_ret
    exact ⟨rfl, hbw5.trans (hbz.mono hbw5.size)⟩
  · rw [hc] at hp
    have hr := (right x · (right_fit hx))
    rw [hx] at hr
    have hpr := (print x · (right_fit hx))
    have hne := line_some hx
    unfold ParsePost St.val at hp
    unfold St.val at hr hpr
    have HP := Lib.hid hp
    have HR := Lib.hid hr
    have HPr := Lib.hid hpr
    clear hc hp hr hpr hx
    refine (HP.out _).mono ?_
    rintro e w1 ⟨rfl, hb1⟩
    have HA1 := Lib.hid (HA0.out.below hb1)
    have HB1 := Lib.hid (HB0.out.below hb1)
    have hbw1 := hb0.trans (hb1.mono hb0.size)
    have HX1 := Lib.hid (Box.new w1 #[.int .i64 x.kind, .string x.head.owner, .string x.head.name, .string x.who, .string x.a.owner, .string x.a.name, .string x.b.owner, .string x.b.name, .string x.via] 25)
    have HA1' := Lib.hid (HA1.out.alloc (.cells #[.int .i64 x.kind, .string x.head.owner, .string x.head.name, .string x.who, .string x.a.owner, .string x.a.name, .string x.b.owner, .string x.b.name, .string x.via] 25))
    have HB1' := Lib.hid (HB1.out.alloc (.cells #[.int .i64 x.kind, .string x.head.owner, .string x.head.name, .string x.who, .string x.a.owner, .string x.a.name, .string x.b.owner, .string x.b.name, .string x.via] 25))
    have hbw1' := hbw1.alloc hbw1.size (.cells #[.int .i64 x.kind, .string x.head.owner, .string x.head.name, .string x.who, .string x.a.owner, .string x.a.name, .string x.b.owner, .string x.b.name, .string x.via] 25)
    clear hb1 HA0 HB0 HA1 HB1 hbw1
    go_wp2_with fail
    refine (HR.out _).mono ?_
    rintro e w2 ⟨rfl, hg⟩
    have HX2 := Lib.hid (HX1.out.below hg.below)
    have HA2 := Lib.hid (HA1'.out.below hg.below)
    have HB2 := Lib.hid (HB1'.out.below hg.below)
    have hbw2 := hbw1'.trans (hg.below.mono hbw1'.size)
    clear HX1 HA1' HB1' hbw1' hg
    obtain ⟨lx2, fx2⟩ := HX2.out
    go_wp2_with fail
    refine (HPr.out _).mono ?_
    rintro e w3 ⟨rfl, hg⟩
    have HA3 := Lib.hid (HA2.out.below hg.below)
    have HB3 := Lib.hid (HB2.out.below hg.below)
    have hbw3 := hbw2.trans (hg.below.mono hbw2.size)
    clear HX2 HA2 HB2 hbw2 hg lx2 fx2
    obtain ⟨la3, fa3⟩ := HA3.out
    obtain ⟨lb3, fb3⟩ := HB3.out
    go_wp2_with fail
    refine (HLa.out _).mono ?_
    rintro e w4 ⟨rfl, hg⟩
    have HA4 := Lib.hid (HA3.out.below hg.below)
    have HB4 := Lib.hid (HB3.out.below hg.below)
    have hbw4 := hbw3.trans (hg.below.mono hbw3.size)
    clear la3 fa3 lb3 fb3 hbw3 HA3 HB3 hg
    obtain ⟨la4, fa4⟩ := HA4.out
    obtain ⟨lb4, fb4⟩ := HB4.out
    go_wp2_with fail
    refine (HLb.out _).mono ?_
    rintro e w5 ⟨rfl, hg⟩
    have HA5 := Lib.hid (HA4.out.below hg.below)
    have HB5 := Lib.hid (HB4.out.below hg.below)
    have hbw5 := hbw4.trans (hg.below.mono hbw4.size)
    clear la4 fa4 lb4 fb4 hbw4 HA4 HB4 hg
    obtain ⟨la5, fa5⟩ := HA5.out
    obtain ⟨lb5, fb5⟩ := HB5.out
    go_wp2_with fail
    refine (lives _).mono ?_
    rintro e wz ⟨rfl, hbz⟩
    go_wp2_with fail
    go_ret
    exact ⟨rfl, hbw5.trans (hbz.mono hbw5.size)⟩
set_option maxHeartbeats 4000000 in
set_option maxRecDepth 100000 in
theorem back3 (k1 : Int) (ho1 hn1 wh1 ao1 an1 bo1 bn1 v1 : ByteArray) (k2 : Int) (ho2 hn2 wh2 ao2 an2 bo2 bn2 v2 s : ByteArray) (w : World) (hs : s.size ≤ maxLen) (fA : St.fit ⟨k1, ⟨ho1, hn1⟩, wh1, ⟨ao1, an1⟩, ⟨bo1, bn1⟩, v1⟩) (la0 : lightS ⟨k1, ⟨ho1, hn1⟩, wh1, ⟨ao1, an1⟩, ⟨bo1, bn1⟩, v1⟩ = true) (lb0 : lightS ⟨k2, ⟨ho2, hn2⟩, wh2, ⟨ao2, an2⟩, ⟨bo2, bn2⟩, v2⟩ = true) (ra0 : St.right ⟨k1, ⟨ho1, hn1⟩, wh1, ⟨ao1, an1⟩, ⟨bo1, bn1⟩, v1⟩ = false) : Calls Try.prog 6 #[.agg #[.int .i64 k1, .string ho1, .string hn1, .string wh1, .string ao1, .string an1, .string bo1, .string bn1, .string v1], .agg #[.int .i64 k2, .string ho2, .string hn2, .string wh2, .string ao2, .string an2, .string bo2, .string bn2, .string v2], .string s] w fun e w' => e = .returned (.bool true) ∧ RowKit.Below w.heap.size w w' := by
  unfold maxLen at hs
  have hla := light ⟨k1, ⟨ho1, hn1⟩, wh1, ⟨ao1, an1⟩, ⟨bo1, bn1⟩, v1⟩
  unfold St.val at hla
  rw [la0] at hla
  have HLa := Lib.hid hla
  clear hla
  have hlb := light ⟨k2, ⟨ho2, hn2⟩, wh2, ⟨ao2, an2⟩, ⟨bo2, bn2⟩, v2⟩
  unfold St.val at hlb
  rw [lb0] at hlb
  have HLb := Lib.hid hlb
  clear hlb
  have hra := (right ⟨k1, ⟨ho1, hn1⟩, wh1, ⟨ao1, an1⟩, ⟨bo1, bn1⟩, v1⟩ · fA)
  unfold St.val at hra
  rw [ra0] at hra
  have HRa := Lib.hid hra
  clear hra
  clear la0 lb0 ra0 fA
  go_enter Try.func6, Try.ntmps6
  go_wp2_with fail
  have hsz : (s.extract 0 (min (s.size : Int) 300).toNat).size ≤ 1000000 := by
    rw [ByteArray.size_extract]; omega
  generalize s.extract 0 (min (s.size : Int) 300).toNat = t at *
  have hp := fun w => parse t w hsz
  have hA0 : Box ((w.alloc (.cells #[.int .i64 k1, .string ho1, .string hn1, .string wh1, .string ao1, .string an1, .string bo1, .string bn1, .string v1] 25)).alloc (.cells #[.int .i64 k2, .string ho2, .string hn2, .string wh2, .string ao2, .string an2, .string bo2, .string bn2, .string v2] 25)) w.heap.size #[.int .i64 k1, .string ho1, .string hn1, .string wh1, .string ao1, .string an1, .string bo1, .string bn1, .string v1] := (Box.new w _ _).alloc _
  have hB0 : Box ((w.alloc (.cells #[.int .i64 k1, .string ho1, .string hn1, .string wh1, .string ao1, .string an1, .string bo1, .string bn1, .string v1] 25)).alloc (.cells #[.int .i64 k2, .string ho2, .string hn2, .string wh2, .string ao2, .string an2, .string bo2, .string bn2, .string v2] 25)) (w.heap.size + 1) #[.int .i64 k2, .string ho2, .string hn2, .string wh2, .string ao2, .string an2, .string bo2, .string bn2, .string v2] := by
    have := Box.new (w.alloc (.cells #[.int .i64 k1, .string ho1, .string hn1, .string wh1, .string ao1, .string an1, .string bo1, .string bn1, .string v1] 25)) #[.int .i64 k2, .string ho2, .string hn2, .string wh2, .string ao2, .string an2, .string bo2, .string bn2, .string v2] 25
    rw [World.size_alloc] at this
    exact this
  have hb0 : RowKit.Below w.heap.size w ((w.alloc (.cells #[.int .i64 k1, .string ho1, .string hn1, .string wh1, .string ao1, .string an1, .string bo1, .string bn1, .string v1] 25)).alloc (.cells #[.int .i64 k2, .string ho2, .string hn2, .string wh2, .string ao2, .string an2, .string bo2, .string bn2, .string v2] 25)) := ((Below.refl _ _).alloc (Nat.le_refl _) _).alloc (by simp) _
  have HA0 := Lib.hid hA0
  have HB0 := Lib.hid hB0
  clear hA0 hB0
  rcases parse_cases t with ⟨c, er, hc, he⟩ | ⟨x, hc, hx⟩
  · rw [hc] at hp
    unfold zeroS zeroR noText at hp
    have HP := Lib.hid hp
    have e1 : (er == 0) = false := by simpa using he
    clear hc he hp
    refine (HP.out _).mono ?_
    rintro e w1 ⟨rfl, hb1⟩
    have HA1 := Lib.hid (HA0.out.below hb1)
    have HB1 := Lib.hid (HB0.out.below hb1)
    have hbw1 := hb0.trans (hb1.mono hb0.size)
    obtain ⟨la1, fa1⟩ := HA1.out
    obtain ⟨lb1, fb1⟩ := HB1.out
    have HA3 := Lib.hid (HA1.out.alloc (.cells #[.int .i64 0, .string ⟨#[]⟩, .string ⟨#[]⟩, .string ⟨#[]⟩, .string ⟨#[]⟩, .string ⟨#[]⟩, .string ⟨#[]⟩, .string ⟨#[]⟩, .string ⟨#[]⟩] 25))
    have HB3 := Lib.hid (HB1.out.alloc (.cells #[.int .i64 0, .string ⟨#[]⟩, .string ⟨#[]⟩, .string ⟨#[]⟩, .string ⟨#[]⟩, .string ⟨#[]⟩, .string ⟨#[]⟩, .string ⟨#[]⟩, .string ⟨#[]⟩] 25))
    have hbw3 := hbw1.alloc hbw1.size (.cells #[.int .i64 0, .string ⟨#[]⟩, .string ⟨#[]⟩, .string ⟨#[]⟩, .string ⟨#[]⟩, .string ⟨#[]⟩, .string ⟨#[]⟩, .string ⟨#[]⟩, .string ⟨#[]⟩] 25)
    clear hb1 HA0 HB0
    unfold St.val
    go_wp2_with fail
    clear la1 fa1 lb1 fb1 HA1 HB1 hbw1
    generalize w1.alloc (.cells #[.int .i64 0, .string ⟨#[]⟩, .string ⟨#[]⟩, .string ⟨#[]⟩, .string ⟨#[]⟩, .string ⟨#[]⟩, .string ⟨#[]⟩, .string ⟨#[]⟩, .string ⟨#[]⟩] 25) = w3 at *
    obtain ⟨la3, fa3⟩ := HA3.out
    obtain ⟨lb3, fb3⟩ := HB3.out
    refine (HLa.out _).mono ?_
    rintro e w4 ⟨rfl, hg⟩
    have HA4 := Lib.hid (HA3.out.below hg.below)
    have HB4 := Lib.hid (HB3.out.below hg.below)
    have hbw4 := hbw3.trans (hg.below.mono hbw3.size)
    clear la3 fa3 lb3 fb3 hbw3 HA3 HB3 hg
    obtain ⟨la4, fa4⟩ := HA4.out
    obtain ⟨lb4, fb4⟩ := HB4.out
    go_wp2_with fail
    refine (HLb.out _).mono ?_
    rintro e w5 ⟨rfl, hg⟩
    have HA5 := Lib.hid (HA4.out.below hg.below)
    have HB5 := Lib.hid (HB4.out.below hg.below)
    have hbw5 := hbw4.trans (hg.below.mono hbw4.size)
    clear la4 fa4 lb4 fb4 hbw4 HA4 HB4 hg
    obtain ⟨la5, fa5⟩ := HA5.out
    obtain ⟨lb5, fb5⟩ := HB5.out
    go_wp2_with fail
    refine (HRa.out _).mono ?_
    rintro e w6 ⟨rfl, hg⟩
    have HA6 := Lib.hid (HA5.out.below hg.below)
    have HB6 := Lib.hid (HB5.out.below hg.below)
    have hbw6 := hbw5.trans (hg.below.mono hbw5.size)
    clear la5 fa5 lb5 fb5 hbw5 HA5 HB5 hg
    obtain ⟨la6, fa6⟩ := HA6.out
    obtain ⟨lb6, fb6⟩ := HB6.out
    go_wp2_with fail
    refine (lives _).mono ?_
    rintro e wz ⟨rfl, hbz⟩
    go_wp2_with fail
    go_ret
    exact ⟨rfl, hbw6.trans (hbz.mono hbw6.size)⟩
  · rw [hc] at hp
    have hr := (right x · (right_fit hx))
    rw [hx] at hr
    have hpr := (print x · (right_fit hx))
    have hne := line_some hx
    unfold ParsePost St.val at hp
    unfold St.val at hr hpr
    have HP := Lib.hid hp
    have HR := Lib.hid hr
    have HPr := Lib.hid hpr
    clear hc hp hr hpr hx
    refine (HP.out _).mono ?_
    rintro e w1 ⟨rfl, hb1⟩
    have HA1 := Lib.hid (HA0.out.below hb1)
    have HB1 := Lib.hid (HB0.out.below hb1)
    have hbw1 := hb0.trans (hb1.mono hb0.size)
    have HX1 := Lib.hid (Box.new w1 #[.int .i64 x.kind, .string x.head.owner, .string x.head.name, .string x.who, .string x.a.owner, .string x.a.name, .string x.b.owner, .string x.b.name, .string x.via] 25)
    have HA1' := Lib.hid (HA1.out.alloc (.cells #[.int .i64 x.kind, .string x.head.owner, .string x.head.name, .string x.who, .string x.a.owner, .string x.a.name, .string x.b.owner, .string x.b.name, .string x.via] 25))
    have HB1' := Lib.hid (HB1.out.alloc (.cells #[.int .i64 x.kind, .string x.head.owner, .string x.head.name, .string x.who, .string x.a.owner, .string x.a.name, .string x.b.owner, .string x.b.name, .string x.via] 25))
    have hbw1' := hbw1.alloc hbw1.size (.cells #[.int .i64 x.kind, .string x.head.owner, .string x.head.name, .string x.who, .string x.a.owner, .string x.a.name, .string x.b.owner, .string x.b.name, .string x.via] 25)
    clear hb1 HA0 HB0 HA1 HB1 hbw1
    go_wp2_with fail
    refine (HR.out _).mono ?_
    rintro e w2 ⟨rfl, hg⟩
    have HX2 := Lib.hid (HX1.out.below hg.below)
    have HA2 := Lib.hid (HA1'.out.below hg.below)
    have HB2 := Lib.hid (HB1'.out.below hg.below)
    have hbw2 := hbw1'.trans (hg.below.mono hbw1'.size)
    clear HX1 HA1' HB1' hbw1' hg
    obtain ⟨lx2, fx2⟩ := HX2.out
    go_wp2_with fail
    refine (HPr.out _).mono ?_
    rintro e w3 ⟨rfl, hg⟩
    have HA3 := Lib.hid (HA2.out.below hg.below)
    have HB3 := Lib.hid (HB2.out.below hg.below)
    have hbw3 := hbw2.trans (hg.below.mono hbw2.size)
    clear HX2 HA2 HB2 hbw2 hg lx2 fx2
    obtain ⟨la3, fa3⟩ := HA3.out
    obtain ⟨lb3, fb3⟩ := HB3.out
    go_wp2_with fail
    refine (HLa.out _).mono ?_
    rintro e w4 ⟨rfl, hg⟩
    have HA4 := Lib.hid (HA3.out.below hg.below)
    have HB4 := Lib.hid (HB3.out.below hg.below)
    have hbw4 := hbw3.trans (hg.below.mono hbw3.size)
    clear la3 fa3 lb3 fb3 hbw3 HA3 HB3 hg
    obtain ⟨la4, fa4⟩ := HA4.out
    obtain ⟨lb4, fb4⟩ := HB4.out
    go_wp2_with fail
    refine (HLb.out _).mono ?_
    rintro e w5 ⟨rfl, hg⟩
    have HA5 := Lib.hid (HA4.out.below hg.below)
    have HB5 := Lib.hid (HB4.out.below hg.below)
    have hbw5 := hbw4.trans (hg.below.mono hbw4.size)
    clear la4 fa4 lb4 fb4 hbw4 HA4 HB4 hg
    obtain ⟨la5, fa5⟩ := HA5.out
    obtain ⟨lb5, fb5⟩ := HB5.out
    go_wp2_with fail
    refine (HRa.out _).mono ?_
    rintro e w6 ⟨rfl, hg⟩
    have HA6 := Lib.hid (HA5.out.below hg.below)
    have HB6 := Lib.hid (HB5.out.below hg.below)
    have hbw6 := hbw5.trans (hg.below.mono hbw5.size)
    clear la5 fa5 lb5 fb5 hbw5 HA5 HB5 hg
    obtain ⟨la6, fa6⟩ := HA6.out
    obtain ⟨lb6, fb6⟩ := HB6.out
    go_wp2_with fail
    refine (lives _).mono ?_
    rintro e wz ⟨rfl, hbz⟩
    go_wp2_with fail
    go_ret
    exact ⟨rfl, hbw6.trans (hbz.mono hbw6.size)⟩
set_option maxHeartbeats 4000000 in
set_option maxRecDepth 100000 in
theorem back4 (k1 : Int) (ho1 hn1 wh1 ao1 an1 bo1 bn1 v1 : ByteArray) (k2 : Int) (ho2 hn2 wh2 ao2 an2 bo2 bn2 v2 s : ByteArray) (w : World) (hs : s.size ≤ maxLen) (fA : St.fit ⟨k1, ⟨ho1, hn1⟩, wh1, ⟨ao1, an1⟩, ⟨bo1, bn1⟩, v1⟩) (fB : St.fit ⟨k2, ⟨ho2, hn2⟩, wh2, ⟨ao2, an2⟩, ⟨bo2, bn2⟩, v2⟩) (la0 : lightS ⟨k1, ⟨ho1, hn1⟩, wh1, ⟨ao1, an1⟩, ⟨bo1, bn1⟩, v1⟩ = true) (lb0 : lightS ⟨k2, ⟨ho2, hn2⟩, wh2, ⟨ao2, an2⟩, ⟨bo2, bn2⟩, v2⟩ = true) (ra0 : St.right ⟨k1, ⟨ho1, hn1⟩, wh1, ⟨ao1, an1⟩, ⟨bo1, bn1⟩, v1⟩ = true) (rb0 : St.right ⟨k2, ⟨ho2, hn2⟩, wh2, ⟨ao2, an2⟩, ⟨bo2, bn2⟩, v2⟩ = false) : Calls Try.prog 6 #[.agg #[.int .i64 k1, .string ho1, .string hn1, .string wh1, .string ao1, .string an1, .string bo1, .string bn1, .string v1], .agg #[.int .i64 k2, .string ho2, .string hn2, .string wh2, .string ao2, .string an2, .string bo2, .string bn2, .string v2], .string s] w fun e w' => e = .returned (.bool true) ∧ RowKit.Below w.heap.size w w' := by
  unfold maxLen at hs
  have hla := light ⟨k1, ⟨ho1, hn1⟩, wh1, ⟨ao1, an1⟩, ⟨bo1, bn1⟩, v1⟩
  unfold St.val at hla
  rw [la0] at hla
  have HLa := Lib.hid hla
  clear hla
  have hlb := light ⟨k2, ⟨ho2, hn2⟩, wh2, ⟨ao2, an2⟩, ⟨bo2, bn2⟩, v2⟩
  unfold St.val at hlb
  rw [lb0] at hlb
  have HLb := Lib.hid hlb
  clear hlb
  have hra := (right ⟨k1, ⟨ho1, hn1⟩, wh1, ⟨ao1, an1⟩, ⟨bo1, bn1⟩, v1⟩ · fA)
  unfold St.val at hra
  rw [ra0] at hra
  have HRa := Lib.hid hra
  clear hra
  have hrb := (right ⟨k2, ⟨ho2, hn2⟩, wh2, ⟨ao2, an2⟩, ⟨bo2, bn2⟩, v2⟩ · fB)
  unfold St.val at hrb
  rw [rb0] at hrb
  have HRb := Lib.hid hrb
  clear hrb
  clear la0 lb0 ra0 rb0 fA fB
  go_enter Try.func6, Try.ntmps6
  go_wp2_with fail
  have hsz : (s.extract 0 (min (s.size : Int) 300).toNat).size ≤ 1000000 := by
    rw [ByteArray.size_extract]; omega
  generalize s.extract 0 (min (s.size : Int) 300).toNat = t at *
  have hp := fun w => parse t w hsz
  have hA0 : Box ((w.alloc (.cells #[.int .i64 k1, .string ho1, .string hn1, .string wh1, .string ao1, .string an1, .string bo1, .string bn1, .string v1] 25)).alloc (.cells #[.int .i64 k2, .string ho2, .string hn2, .string wh2, .string ao2, .string an2, .string bo2, .string bn2, .string v2] 25)) w.heap.size #[.int .i64 k1, .string ho1, .string hn1, .string wh1, .string ao1, .string an1, .string bo1, .string bn1, .string v1] := (Box.new w _ _).alloc _
  have hB0 : Box ((w.alloc (.cells #[.int .i64 k1, .string ho1, .string hn1, .string wh1, .string ao1, .string an1, .string bo1, .string bn1, .string v1] 25)).alloc (.cells #[.int .i64 k2, .string ho2, .string hn2, .string wh2, .string ao2, .string an2, .string bo2, .string bn2, .string v2] 25)) (w.heap.size + 1) #[.int .i64 k2, .string ho2, .string hn2, .string wh2, .string ao2, .string an2, .string bo2, .string bn2, .string v2] := by
    have := Box.new (w.alloc (.cells #[.int .i64 k1, .string ho1, .string hn1, .string wh1, .string ao1, .string an1, .string bo1, .string bn1, .string v1] 25)) #[.int .i64 k2, .string ho2, .string hn2, .string wh2, .string ao2, .string an2, .string bo2, .string bn2, .string v2] 25
    rw [World.size_alloc] at this
    exact this
  have hb0 : RowKit.Below w.heap.size w ((w.alloc (.cells #[.int .i64 k1, .string ho1, .string hn1, .string wh1, .string ao1, .string an1, .string bo1, .string bn1, .string v1] 25)).alloc (.cells #[.int .i64 k2, .string ho2, .string hn2, .string wh2, .string ao2, .string an2, .string bo2, .string bn2, .string v2] 25)) := ((Below.refl _ _).alloc (Nat.le_refl _) _).alloc (by simp) _
  have HA0 := Lib.hid hA0
  have HB0 := Lib.hid hB0
  clear hA0 hB0
  rcases parse_cases t with ⟨c, er, hc, he⟩ | ⟨x, hc, hx⟩
  · rw [hc] at hp
    unfold zeroS zeroR noText at hp
    have HP := Lib.hid hp
    have e1 : (er == 0) = false := by simpa using he
    clear hc he hp
    refine (HP.out _).mono ?_
    rintro e w1 ⟨rfl, hb1⟩
    have HA1 := Lib.hid (HA0.out.below hb1)
    have HB1 := Lib.hid (HB0.out.below hb1)
    have hbw1 := hb0.trans (hb1.mono hb0.size)
    obtain ⟨la1, fa1⟩ := HA1.out
    obtain ⟨lb1, fb1⟩ := HB1.out
    have HA3 := Lib.hid (HA1.out.alloc (.cells #[.int .i64 0, .string ⟨#[]⟩, .string ⟨#[]⟩, .string ⟨#[]⟩, .string ⟨#[]⟩, .string ⟨#[]⟩, .string ⟨#[]⟩, .string ⟨#[]⟩, .string ⟨#[]⟩] 25))
    have HB3 := Lib.hid (HB1.out.alloc (.cells #[.int .i64 0, .string ⟨#[]⟩, .string ⟨#[]⟩, .string ⟨#[]⟩, .string ⟨#[]⟩, .string ⟨#[]⟩, .string ⟨#[]⟩, .string ⟨#[]⟩, .string ⟨#[]⟩] 25))
    have hbw3 := hbw1.alloc hbw1.size (.cells #[.int .i64 0, .string ⟨#[]⟩, .string ⟨#[]⟩, .string ⟨#[]⟩, .string ⟨#[]⟩, .string ⟨#[]⟩, .string ⟨#[]⟩, .string ⟨#[]⟩, .string ⟨#[]⟩] 25)
    clear hb1 HA0 HB0
    unfold St.val
    go_wp2_with fail
    clear la1 fa1 lb1 fb1 HA1 HB1 hbw1
    generalize w1.alloc (.cells #[.int .i64 0, .string ⟨#[]⟩, .string ⟨#[]⟩, .string ⟨#[]⟩, .string ⟨#[]⟩, .string ⟨#[]⟩, .string ⟨#[]⟩, .string ⟨#[]⟩, .string ⟨#[]⟩] 25) = w3 at *
    obtain ⟨la3, fa3⟩ := HA3.out
    obtain ⟨lb3, fb3⟩ := HB3.out
    refine (HLa.out _).mono ?_
    rintro e w4 ⟨rfl, hg⟩
    have HA4 := Lib.hid (HA3.out.below hg.below)
    have HB4 := Lib.hid (HB3.out.below hg.below)
    have hbw4 := hbw3.trans (hg.below.mono hbw3.size)
    clear la3 fa3 lb3 fb3 hbw3 HA3 HB3 hg
    obtain ⟨la4, fa4⟩ := HA4.out
    obtain ⟨lb4, fb4⟩ := HB4.out
    go_wp2_with fail
    refine (HLb.out _).mono ?_
    rintro e w5 ⟨rfl, hg⟩
    have HA5 := Lib.hid (HA4.out.below hg.below)
    have HB5 := Lib.hid (HB4.out.below hg.below)
    have hbw5 := hbw4.trans (hg.below.mono hbw4.size)
    clear la4 fa4 lb4 fb4 hbw4 HA4 HB4 hg
    obtain ⟨la5, fa5⟩ := HA5.out
    obtain ⟨lb5, fb5⟩ := HB5.out
    go_wp2_with fail
    refine (HRa.out _).mono ?_
    rintro e w6 ⟨rfl, hg⟩
    have HA6 := Lib.hid (HA5.out.below hg.below)
    have HB6 := Lib.hid (HB5.out.below hg.below)
    have hbw6 := hbw5.trans (hg.below.mono hbw5.size)
    clear la5 fa5 lb5 fb5 hbw5 HA5 HB5 hg
    obtain ⟨la6, fa6⟩ := HA6.out
    obtain ⟨lb6, fb6⟩ := HB6.out
    go_wp2_with fail
    refine (HRb.out _).mono ?_
    rintro e w7 ⟨rfl, hg⟩
    have HA7 := Lib.hid (HA6.out.below hg.below)
    have HB7 := Lib.hid (HB6.out.below hg.below)
    have hbw7 := hbw6.trans (hg.below.mono hbw6.size)
    clear la6 fa6 lb6 fb6 hbw6 HA6 HB6 hg
    obtain ⟨la7, fa7⟩ := HA7.out
    obtain ⟨lb7, fb7⟩ := HB7.out
    go_wp2_with fail
    refine (lives _).mono ?_
    rintro e wz ⟨rfl, hbz⟩
    go_wp2_with fail
    go_ret
    exact ⟨rfl, hbw7.trans (hbz.mono hbw7.size)⟩
  · rw [hc] at hp
    have hr := (right x · (right_fit hx))
    rw [hx] at hr
    have hpr := (print x · (right_fit hx))
    have hne := line_some hx
    unfold ParsePost St.val at hp
    unfold St.val at hr hpr
    have HP := Lib.hid hp
    have HR := Lib.hid hr
    have HPr := Lib.hid hpr
    clear hc hp hr hpr hx
    refine (HP.out _).mono ?_
    rintro e w1 ⟨rfl, hb1⟩
    have HA1 := Lib.hid (HA0.out.below hb1)
    have HB1 := Lib.hid (HB0.out.below hb1)
    have hbw1 := hb0.trans (hb1.mono hb0.size)
    have HX1 := Lib.hid (Box.new w1 #[.int .i64 x.kind, .string x.head.owner, .string x.head.name, .string x.who, .string x.a.owner, .string x.a.name, .string x.b.owner, .string x.b.name, .string x.via] 25)
    have HA1' := Lib.hid (HA1.out.alloc (.cells #[.int .i64 x.kind, .string x.head.owner, .string x.head.name, .string x.who, .string x.a.owner, .string x.a.name, .string x.b.owner, .string x.b.name, .string x.via] 25))
    have HB1' := Lib.hid (HB1.out.alloc (.cells #[.int .i64 x.kind, .string x.head.owner, .string x.head.name, .string x.who, .string x.a.owner, .string x.a.name, .string x.b.owner, .string x.b.name, .string x.via] 25))
    have hbw1' := hbw1.alloc hbw1.size (.cells #[.int .i64 x.kind, .string x.head.owner, .string x.head.name, .string x.who, .string x.a.owner, .string x.a.name, .string x.b.owner, .string x.b.name, .string x.via] 25)
    clear hb1 HA0 HB0 HA1 HB1 hbw1
    go_wp2_with fail
    refine (HR.out _).mono ?_
    rintro e w2 ⟨rfl, hg⟩
    have HX2 := Lib.hid (HX1.out.below hg.below)
    have HA2 := Lib.hid (HA1'.out.below hg.below)
    have HB2 := Lib.hid (HB1'.out.below hg.below)
    have hbw2 := hbw1'.trans (hg.below.mono hbw1'.size)
    clear HX1 HA1' HB1' hbw1' hg
    obtain ⟨lx2, fx2⟩ := HX2.out
    go_wp2_with fail
    refine (HPr.out _).mono ?_
    rintro e w3 ⟨rfl, hg⟩
    have HA3 := Lib.hid (HA2.out.below hg.below)
    have HB3 := Lib.hid (HB2.out.below hg.below)
    have hbw3 := hbw2.trans (hg.below.mono hbw2.size)
    clear HX2 HA2 HB2 hbw2 hg lx2 fx2
    obtain ⟨la3, fa3⟩ := HA3.out
    obtain ⟨lb3, fb3⟩ := HB3.out
    go_wp2_with fail
    refine (HLa.out _).mono ?_
    rintro e w4 ⟨rfl, hg⟩
    have HA4 := Lib.hid (HA3.out.below hg.below)
    have HB4 := Lib.hid (HB3.out.below hg.below)
    have hbw4 := hbw3.trans (hg.below.mono hbw3.size)
    clear la3 fa3 lb3 fb3 hbw3 HA3 HB3 hg
    obtain ⟨la4, fa4⟩ := HA4.out
    obtain ⟨lb4, fb4⟩ := HB4.out
    go_wp2_with fail
    refine (HLb.out _).mono ?_
    rintro e w5 ⟨rfl, hg⟩
    have HA5 := Lib.hid (HA4.out.below hg.below)
    have HB5 := Lib.hid (HB4.out.below hg.below)
    have hbw5 := hbw4.trans (hg.below.mono hbw4.size)
    clear la4 fa4 lb4 fb4 hbw4 HA4 HB4 hg
    obtain ⟨la5, fa5⟩ := HA5.out
    obtain ⟨lb5, fb5⟩ := HB5.out
    go_wp2_with fail
    refine (HRa.out _).mono ?_
    rintro e w6 ⟨rfl, hg⟩
    have HA6 := Lib.hid (HA5.out.below hg.below)
    have HB6 := Lib.hid (HB5.out.below hg.below)
    have hbw6 := hbw5.trans (hg.below.mono hbw5.size)
    clear la5 fa5 lb5 fb5 hbw5 HA5 HB5 hg
    obtain ⟨la6, fa6⟩ := HA6.out
    obtain ⟨lb6, fb6⟩ := HB6.out
    go_wp2_with fail
    refine (HRb.out _).mono ?_
    rintro e w7 ⟨rfl, hg⟩
    have HA7 := Lib.hid (HA6.out.below hg.below)
    have HB7 := Lib.hid (HB6.out.below hg.below)
    have hbw7 := hbw6.trans (hg.below.mono hbw6.size)
    clear la6 fa6 lb6 fb6 hbw6 HA6 HB6 hg
    obtain ⟨la7, fa7⟩ := HA7.out
    obtain ⟨lb7, fb7⟩ := HB7.out
    go_wp2_with fail
    refine (lives _).mono ?_
    rintro e wz ⟨rfl, hbz⟩
    go_wp2_with fail
    go_ret
    exact ⟨rfl, hbw7.trans (hbz.mono hbw7.size)⟩
set_option maxHeartbeats 4000000 in
set_option maxRecDepth 100000 in
theorem back5 (k1 : Int) (ho1 hn1 wh1 ao1 an1 bo1 bn1 v1 : ByteArray) (k2 : Int) (ho2 hn2 wh2 ao2 an2 bo2 bn2 v2 s : ByteArray) (w : World) (hs : s.size ≤ maxLen) (fA : St.fit ⟨k1, ⟨ho1, hn1⟩, wh1, ⟨ao1, an1⟩, ⟨bo1, bn1⟩, v1⟩) (fB : St.fit ⟨k2, ⟨ho2, hn2⟩, wh2, ⟨ao2, an2⟩, ⟨bo2, bn2⟩, v2⟩) (la0 : lightS ⟨k1, ⟨ho1, hn1⟩, wh1, ⟨ao1, an1⟩, ⟨bo1, bn1⟩, v1⟩ = true) (lb0 : lightS ⟨k2, ⟨ho2, hn2⟩, wh2, ⟨ao2, an2⟩, ⟨bo2, bn2⟩, v2⟩ = true) (ra0 : St.right ⟨k1, ⟨ho1, hn1⟩, wh1, ⟨ao1, an1⟩, ⟨bo1, bn1⟩, v1⟩ = true) (rb0 : St.right ⟨k2, ⟨ho2, hn2⟩, wh2, ⟨ao2, an2⟩, ⟨bo2, bn2⟩, v2⟩ = true) : Calls Try.prog 6 #[.agg #[.int .i64 k1, .string ho1, .string hn1, .string wh1, .string ao1, .string an1, .string bo1, .string bn1, .string v1], .agg #[.int .i64 k2, .string ho2, .string hn2, .string wh2, .string ao2, .string an2, .string bo2, .string bn2, .string v2], .string s] w fun e w' => e = .returned (.bool true) ∧ RowKit.Below w.heap.size w w' := by
  unfold maxLen at hs
  have hla := light ⟨k1, ⟨ho1, hn1⟩, wh1, ⟨ao1, an1⟩, ⟨bo1, bn1⟩, v1⟩
  unfold St.val at hla
  rw [la0] at hla
  have HLa := Lib.hid hla
  clear hla
  have hlb := light ⟨k2, ⟨ho2, hn2⟩, wh2, ⟨ao2, an2⟩, ⟨bo2, bn2⟩, v2⟩
  unfold St.val at hlb
  rw [lb0] at hlb
  have HLb := Lib.hid hlb
  clear hlb
  have hra := (right ⟨k1, ⟨ho1, hn1⟩, wh1, ⟨ao1, an1⟩, ⟨bo1, bn1⟩, v1⟩ · fA)
  unfold St.val at hra
  rw [ra0] at hra
  have HRa := Lib.hid hra
  clear hra
  have hrb := (right ⟨k2, ⟨ho2, hn2⟩, wh2, ⟨ao2, an2⟩, ⟨bo2, bn2⟩, v2⟩ · fB)
  unfold St.val at hrb
  rw [rb0] at hrb
  have HRb := Lib.hid hrb
  clear hrb
  obtain ⟨L, hL1, hL2⟩ := parse_line ra0
  have hpa : ∀ w, Calls Try.prog 28 #[.string (line ⟨k1, ⟨ho1, hn1⟩, wh1, ⟨ao1, an1⟩, ⟨bo1, bn1⟩, v1⟩)] w (ParsePost (⟨k1, ⟨ho1, hn1⟩, wh1, ⟨ao1, an1⟩, ⟨bo1, bn1⟩, v1⟩, 0, 0) w) := fun w => by
    have := parse (line ⟨k1, ⟨ho1, hn1⟩, wh1, ⟨ao1, an1⟩, ⟨bo1, bn1⟩, v1⟩) w (line_small ra0)
    rw [hL1] at this
    show Calls _ _ _ _ (ParsePost _ w)
    rw [← hL2]
    exact this
  have hpra := (print ⟨k1, ⟨ho1, hn1⟩, wh1, ⟨ao1, an1⟩, ⟨bo1, bn1⟩, v1⟩ · fA)
  have hprb := (print ⟨k2, ⟨ho2, hn2⟩, wh2, ⟨ao2, an2⟩, ⟨bo2, bn2⟩, v2⟩ · fB)
  unfold St.val at hpra hprb
  have HPra := Lib.hid hpra
  have HPrb := Lib.hid hprb
  have HPa := Lib.hid hpa
  have hq1 := fun w => eqS k1 ho1 hn1 wh1 ao1 an1 bo1 bn1 v1 k1 ho1 hn1 wh1 ao1 an1 bo1 bn1 v1 w
  rw [decide_eq_true rfl] at hq1
  have hq2 := fun w => eqS k1 ho1 hn1 wh1 ao1 an1 bo1 bn1 v1 k2 ho2 hn2 wh2 ao2 an2 bo2 bn2 v2 w
  have hls : ((line ⟨k1, ⟨ho1, hn1⟩, wh1, ⟨ao1, an1⟩, ⟨bo1, bn1⟩, v1⟩).toList == (line ⟨k2, ⟨ho2, hn2⟩, wh2, ⟨ao2, an2⟩, ⟨bo2, bn2⟩, v2⟩).toList) = decide ((⟨k1, ⟨ho1, hn1⟩, wh1, ⟨ao1, an1⟩, ⟨bo1, bn1⟩, v1⟩ : St) = ⟨k2, ⟨ho2, hn2⟩, wh2, ⟨ao2, an2⟩, ⟨bo2, bn2⟩, v2⟩) := by
    rw [same_eq, Bool.eq_iff_iff, decide_eq_true_iff, decide_eq_true_iff]
    exact ⟨line_inj ra0 rb0, fun e => by rw [e]⟩
  generalize decide ((⟨k1, ⟨ho1, hn1⟩, wh1, ⟨ao1, an1⟩, ⟨bo1, bn1⟩, v1⟩ : St) = ⟨k2, ⟨ho2, hn2⟩, wh2, ⟨ao2, an2⟩, ⟨bo2, bn2⟩, v2⟩) = dq at *
  generalize line ⟨k1, ⟨ho1, hn1⟩, wh1, ⟨ao1, an1⟩, ⟨bo1, bn1⟩, v1⟩ = lna at *
  generalize line ⟨k2, ⟨ho2, hn2⟩, wh2, ⟨ao2, an2⟩, ⟨bo2, bn2⟩, v2⟩ = lnb at *
  clear la0 lb0 ra0 rb0 fA fB hpa hpra hprb hL1 hL2
  go_enter Try.func6, Try.ntmps6
  go_wp2_with fail
  have hsz : (s.extract 0 (min (s.size : Int) 300).toNat).size ≤ 1000000 := by
    rw [ByteArray.size_extract]; omega
  generalize s.extract 0 (min (s.size : Int) 300).toNat = t at *
  have hp := fun w => parse t w hsz
  have hA0 : Box ((w.alloc (.cells #[.int .i64 k1, .string ho1, .string hn1, .string wh1, .string ao1, .string an1, .string bo1, .string bn1, .string v1] 25)).alloc (.cells #[.int .i64 k2, .string ho2, .string hn2, .string wh2, .string ao2, .string an2, .string bo2, .string bn2, .string v2] 25)) w.heap.size #[.int .i64 k1, .string ho1, .string hn1, .string wh1, .string ao1, .string an1, .string bo1, .string bn1, .string v1] := (Box.new w _ _).alloc _
  have hB0 : Box ((w.alloc (.cells #[.int .i64 k1, .string ho1, .string hn1, .string wh1, .string ao1, .string an1, .string bo1, .string bn1, .string v1] 25)).alloc (.cells #[.int .i64 k2, .string ho2, .string hn2, .string wh2, .string ao2, .string an2, .string bo2, .string bn2, .string v2] 25)) (w.heap.size + 1) #[.int .i64 k2, .string ho2, .string hn2, .string wh2, .string ao2, .string an2, .string bo2, .string bn2, .string v2] := by
    have := Box.new (w.alloc (.cells #[.int .i64 k1, .string ho1, .string hn1, .string wh1, .string ao1, .string an1, .string bo1, .string bn1, .string v1] 25)) #[.int .i64 k2, .string ho2, .string hn2, .string wh2, .string ao2, .string an2, .string bo2, .string bn2, .string v2] 25
    rw [World.size_alloc] at this
    exact this
  have hb0 : RowKit.Below w.heap.size w ((w.alloc (.cells #[.int .i64 k1, .string ho1, .string hn1, .string wh1, .string ao1, .string an1, .string bo1, .string bn1, .string v1] 25)).alloc (.cells #[.int .i64 k2, .string ho2, .string hn2, .string wh2, .string ao2, .string an2, .string bo2, .string bn2, .string v2] 25)) := ((Below.refl _ _).alloc (Nat.le_refl _) _).alloc (by simp) _
  have HA0 := Lib.hid hA0
  have HB0 := Lib.hid hB0
  clear hA0 hB0
  rcases parse_cases t with ⟨c, er, hc, he⟩ | ⟨x, hc, hx⟩
  · rw [hc] at hp
    unfold zeroS zeroR noText at hp
    have HP := Lib.hid hp
    have e1 : (er == 0) = false := by simpa using he
    clear hc he hp
    refine (HP.out _).mono ?_
    rintro e w1 ⟨rfl, hb1⟩
    have HA1 := Lib.hid (HA0.out.below hb1)
    have HB1 := Lib.hid (HB0.out.below hb1)
    have hbw1 := hb0.trans (hb1.mono hb0.size)
    obtain ⟨la1, fa1⟩ := HA1.out
    obtain ⟨lb1, fb1⟩ := HB1.out
    have HA3 := Lib.hid (HA1.out.alloc (.cells #[.int .i64 0, .string ⟨#[]⟩, .string ⟨#[]⟩, .string ⟨#[]⟩, .string ⟨#[]⟩, .string ⟨#[]⟩, .string ⟨#[]⟩, .string ⟨#[]⟩, .string ⟨#[]⟩] 25))
    have HB3 := Lib.hid (HB1.out.alloc (.cells #[.int .i64 0, .string ⟨#[]⟩, .string ⟨#[]⟩, .string ⟨#[]⟩, .string ⟨#[]⟩, .string ⟨#[]⟩, .string ⟨#[]⟩, .string ⟨#[]⟩, .string ⟨#[]⟩] 25))
    have hbw3 := hbw1.alloc hbw1.size (.cells #[.int .i64 0, .string ⟨#[]⟩, .string ⟨#[]⟩, .string ⟨#[]⟩, .string ⟨#[]⟩, .string ⟨#[]⟩, .string ⟨#[]⟩, .string ⟨#[]⟩, .string ⟨#[]⟩] 25)
    clear hb1 HA0 HB0
    unfold St.val
    go_wp2_with fail
    clear la1 fa1 lb1 fb1 HA1 HB1 hbw1
    generalize w1.alloc (.cells #[.int .i64 0, .string ⟨#[]⟩, .string ⟨#[]⟩, .string ⟨#[]⟩, .string ⟨#[]⟩, .string ⟨#[]⟩, .string ⟨#[]⟩, .string ⟨#[]⟩, .string ⟨#[]⟩] 25) = w3 at *
    obtain ⟨la3, fa3⟩ := HA3.out
    obtain ⟨lb3, fb3⟩ := HB3.out
    refine (HLa.out _).mono ?_
    rintro e w4 ⟨rfl, hg⟩
    have HA4 := Lib.hid (HA3.out.below hg.below)
    have HB4 := Lib.hid (HB3.out.below hg.below)
    have hbw4 := hbw3.trans (hg.below.mono hbw3.size)
    clear la3 fa3 lb3 fb3 hbw3 HA3 HB3 hg
    obtain ⟨la4, fa4⟩ := HA4.out
    obtain ⟨lb4, fb4⟩ := HB4.out
    go_wp2_with fail
    refine (HLb.out _).mono ?_
    rintro e w5 ⟨rfl, hg⟩
    have HA5 := Lib.hid (HA4.out.below hg.below)
    have HB5 := Lib.hid (HB4.out.below hg.below)
    have hbw5 := hbw4.trans (hg.below.mono hbw4.size)
    clear la4 fa4 lb4 fb4 hbw4 HA4 HB4 hg
    obtain ⟨la5, fa5⟩ := HA5.out
    obtain ⟨lb5, fb5⟩ := HB5.out
    go_wp2_with fail
    refine (HRa.out _).mono ?_
    rintro e w6 ⟨rfl, hg⟩
    have HA6 := Lib.hid (HA5.out.below hg.below)
    have HB6 := Lib.hid (HB5.out.below hg.below)
    have hbw6 := hbw5.trans (hg.below.mono hbw5.size)
    clear la5 fa5 lb5 fb5 hbw5 HA5 HB5 hg
    obtain ⟨la6, fa6⟩ := HA6.out
    obtain ⟨lb6, fb6⟩ := HB6.out
    go_wp2_with fail
    refine (HRb.out _).mono ?_
    rintro e w7 ⟨rfl, hg⟩
    have HA7 := Lib.hid (HA6.out.below hg.below)
    have HB7 := Lib.hid (HB6.out.below hg.below)
    have hbw7 := hbw6.trans (hg.below.mono hbw6.size)
    clear la6 fa6 lb6 fb6 hbw6 HA6 HB6 hg
    obtain ⟨la7, fa7⟩ := HA7.out
    obtain ⟨lb7, fb7⟩ := HB7.out
    go_wp2_with fail
    refine (HPra.out _).mono ?_
    rintro e w8 ⟨rfl, hg⟩
    have HA8 := Lib.hid (HA7.out.below hg.below)
    have HB8 := Lib.hid (HB7.out.below hg.below)
    have hbw8 := hbw7.trans (hg.below.mono hbw7.size)
    clear la7 fa7 lb7 fb7 hbw7 HA7 HB7 hg
    go_wp2_with fail
    refine (HPa.out _).mono ?_
    rintro e w9 ⟨rfl, hb9⟩
    have HA9 := HA8.out.below hb9
    have HB9 := HB8.out.below hb9
    have hbw9 := hbw8.trans (hb9.mono hbw8.size)
    have hAX := HA9.alloc (.cells #[.int .i64 k1, .string ho1, .string hn1, .string wh1, .string ao1, .string an1, .string bo1, .string bn1, .string v1] 25)
    have hBX := HB9.alloc (.cells #[.int .i64 k1, .string ho1, .string hn1, .string wh1, .string ao1, .string an1, .string bo1, .string bn1, .string v1] 25)
    have hXX := Box.new w9 #[.int .i64 k1, .string ho1, .string hn1, .string wh1, .string ao1, .string an1, .string bo1, .string bn1, .string v1] 25
    have hbwX := hbw9.alloc hbw9.size (.cells #[.int .i64 k1, .string ho1, .string hn1, .string wh1, .string ao1, .string an1, .string bo1, .string bn1, .string v1] 25)
    clear HA8 HB8 hbw8 hb9 HA9 HB9 hbw9
    unfold St.val
    go_wp2_with fail
    have hst : RowKit.Below (w9.alloc (.cells #[.int .i64 k1, .string ho1, .string hn1, .string wh1, .string ao1, .string an1, .string bo1, .string bn1, .string v1] 25)).heap.size (w9.alloc (.cells #[.int .i64 k1, .string ho1, .string hn1, .string wh1, .string ao1, .string an1, .string bo1, .string bn1, .string v1] 25)) (w9.alloc (.cells #[.int .i64 k1, .string ho1, .string hn1, .string wh1, .string ao1, .string an1, .string bo1, .string bn1, .string v1] 25)).drew ∧ (∀ o, (w9.alloc (.cells #[.int .i64 k1, .string ho1, .string hn1, .string wh1, .string ao1, .string an1, .string bo1, .string bn1, .string v1] 25)).drew.cell? ⟨w.heap.size, o, none⟩ = (#[.int .i64 k1, .string ho1, .string hn1, .string wh1, .string ao1, .string an1, .string bo1, .string bn1, .string v1] : Array Value)[o]?) ∧ (∀ o, (w9.alloc (.cells #[.int .i64 k1, .string ho1, .string hn1, .string wh1, .string ao1, .string an1, .string bo1, .string bn1, .string v1] 25)).drew.cell? ⟨w.heap.size + 1, o, none⟩ = (#[.int .i64 k2, .string ho2, .string hn2, .string wh2, .string ao2, .string an2, .string bo2, .string bn2, .string v2] : Array Value)[o]?) ∧ (∀ o, (w9.alloc (.cells #[.int .i64 k1, .string ho1, .string hn1, .string wh1, .string ao1, .string an1, .string bo1, .string bn1, .string v1] 25)).drew.cell? ⟨w9.heap.size, o, none⟩ = (#[.int .i64 k1, .string ho1, .string hn1, .string wh1, .string ao1, .string an1, .string bo1, .string bn1, .string v1] : Array Value)[o]?) := ⟨(Below.refl _ _).drew, hAX.2, hBX.2, hXX.2⟩
    have l1 := hAX.1
    have l2 := hBX.1
    have l3 := hXX.1
    clear hAX hBX hXX
    go_region_held3 (fun w' => RowKit.Below (w9.alloc (.cells #[.int .i64 k1, .string ho1, .string hn1, .string wh1, .string ao1, .string an1, .string bo1, .string bn1, .string v1] 25)).heap.size (w9.alloc (.cells #[.int .i64 k1, .string ho1, .string hn1, .string wh1, .string ao1, .string an1, .string bo1, .string bn1, .string v1] 25)) w' ∧ (∀ o, w'.cell? ⟨w.heap.size, o, none⟩ = (#[.int .i64 k1, .string ho1, .string hn1, .string wh1, .string ao1, .string an1, .string bo1, .string bn1, .string v1] : Array Value)[o]?) ∧ (∀ o, w'.cell? ⟨w.heap.size + 1, o, none⟩ = (#[.int .i64 k2, .string ho2, .string hn2, .string wh2, .string ao2, .string an2, .string bo2, .string bn2, .string v2] : Array Value)[o]?) ∧ (∀ o, w'.cell? ⟨w9.heap.size, o, none⟩ = (#[.int .i64 k1, .string ho1, .string hn1, .string wh1, .string ao1, .string an1, .string bo1, .string bn1, .string v1] : Array Value)[o]?))
      (first | with_reducible exact hst | with_reducible assumption | exact keep3 (by with_reducible assumption) l1 l2 l3 (by with_reducible assumption))
      (first | (go_at_call 13; ((with_reducible refine (HPra.out _).mono ?_); rintro e w' ⟨rfl, hg⟩; have hgb := hg.below; clear hg)) | (go_at_call 13; ((with_reducible refine (HPrb.out _).mono ?_); rintro e w' ⟨rfl, hg⟩; have hgb := hg.below; clear hg)) | (go_at_call 8; refine (lives _).mono ?_; rintro e w' ⟨rfl, hgb⟩))
    rename_i hHeld
    go_wp2_with fail
    go_ret
    exact ⟨rfl, hbwX.trans (hHeld.1.mono hbwX.size)⟩
  · rw [hc] at hp
    have hr := (right x · (right_fit hx))
    rw [hx] at hr
    have hpr := (print x · (right_fit hx))
    have hne := line_some hx
    unfold ParsePost St.val at hp
    unfold St.val at hr hpr
    have HP := Lib.hid hp
    have HR := Lib.hid hr
    have HPr := Lib.hid hpr
    clear hc hp hr hpr hx
    refine (HP.out _).mono ?_
    rintro e w1 ⟨rfl, hb1⟩
    have HA1 := Lib.hid (HA0.out.below hb1)
    have HB1 := Lib.hid (HB0.out.below hb1)
    have hbw1 := hb0.trans (hb1.mono hb0.size)
    have HX1 := Lib.hid (Box.new w1 #[.int .i64 x.kind, .string x.head.owner, .string x.head.name, .string x.who, .string x.a.owner, .string x.a.name, .string x.b.owner, .string x.b.name, .string x.via] 25)
    have HA1' := Lib.hid (HA1.out.alloc (.cells #[.int .i64 x.kind, .string x.head.owner, .string x.head.name, .string x.who, .string x.a.owner, .string x.a.name, .string x.b.owner, .string x.b.name, .string x.via] 25))
    have HB1' := Lib.hid (HB1.out.alloc (.cells #[.int .i64 x.kind, .string x.head.owner, .string x.head.name, .string x.who, .string x.a.owner, .string x.a.name, .string x.b.owner, .string x.b.name, .string x.via] 25))
    have hbw1' := hbw1.alloc hbw1.size (.cells #[.int .i64 x.kind, .string x.head.owner, .string x.head.name, .string x.who, .string x.a.owner, .string x.a.name, .string x.b.owner, .string x.b.name, .string x.via] 25)
    clear hb1 HA0 HB0 HA1 HB1 hbw1
    go_wp2_with fail
    refine (HR.out _).mono ?_
    rintro e w2 ⟨rfl, hg⟩
    have HX2 := Lib.hid (HX1.out.below hg.below)
    have HA2 := Lib.hid (HA1'.out.below hg.below)
    have HB2 := Lib.hid (HB1'.out.below hg.below)
    have hbw2 := hbw1'.trans (hg.below.mono hbw1'.size)
    clear HX1 HA1' HB1' hbw1' hg
    obtain ⟨lx2, fx2⟩ := HX2.out
    go_wp2_with fail
    refine (HPr.out _).mono ?_
    rintro e w3 ⟨rfl, hg⟩
    have HA3 := Lib.hid (HA2.out.below hg.below)
    have HB3 := Lib.hid (HB2.out.below hg.below)
    have hbw3 := hbw2.trans (hg.below.mono hbw2.size)
    clear HX2 HA2 HB2 hbw2 hg lx2 fx2
    obtain ⟨la3, fa3⟩ := HA3.out
    obtain ⟨lb3, fb3⟩ := HB3.out
    go_wp2_with fail
    refine (HLa.out _).mono ?_
    rintro e w4 ⟨rfl, hg⟩
    have HA4 := Lib.hid (HA3.out.below hg.below)
    have HB4 := Lib.hid (HB3.out.below hg.below)
    have hbw4 := hbw3.trans (hg.below.mono hbw3.size)
    clear la3 fa3 lb3 fb3 hbw3 HA3 HB3 hg
    obtain ⟨la4, fa4⟩ := HA4.out
    obtain ⟨lb4, fb4⟩ := HB4.out
    go_wp2_with fail
    refine (HLb.out _).mono ?_
    rintro e w5 ⟨rfl, hg⟩
    have HA5 := Lib.hid (HA4.out.below hg.below)
    have HB5 := Lib.hid (HB4.out.below hg.below)
    have hbw5 := hbw4.trans (hg.below.mono hbw4.size)
    clear la4 fa4 lb4 fb4 hbw4 HA4 HB4 hg
    obtain ⟨la5, fa5⟩ := HA5.out
    obtain ⟨lb5, fb5⟩ := HB5.out
    go_wp2_with fail
    refine (HRa.out _).mono ?_
    rintro e w6 ⟨rfl, hg⟩
    have HA6 := Lib.hid (HA5.out.below hg.below)
    have HB6 := Lib.hid (HB5.out.below hg.below)
    have hbw6 := hbw5.trans (hg.below.mono hbw5.size)
    clear la5 fa5 lb5 fb5 hbw5 HA5 HB5 hg
    obtain ⟨la6, fa6⟩ := HA6.out
    obtain ⟨lb6, fb6⟩ := HB6.out
    go_wp2_with fail
    refine (HRb.out _).mono ?_
    rintro e w7 ⟨rfl, hg⟩
    have HA7 := Lib.hid (HA6.out.below hg.below)
    have HB7 := Lib.hid (HB6.out.below hg.below)
    have hbw7 := hbw6.trans (hg.below.mono hbw6.size)
    clear la6 fa6 lb6 fb6 hbw6 HA6 HB6 hg
    obtain ⟨la7, fa7⟩ := HA7.out
    obtain ⟨lb7, fb7⟩ := HB7.out
    go_wp2_with fail
    refine (HPra.out _).mono ?_
    rintro e w8 ⟨rfl, hg⟩
    have HA8 := Lib.hid (HA7.out.below hg.below)
    have HB8 := Lib.hid (HB7.out.below hg.below)
    have hbw8 := hbw7.trans (hg.below.mono hbw7.size)
    clear la7 fa7 lb7 fb7 hbw7 HA7 HB7 hg
    go_wp2_with fail
    refine (HPa.out _).mono ?_
    rintro e w9 ⟨rfl, hb9⟩
    have HA9 := HA8.out.below hb9
    have HB9 := HB8.out.below hb9
    have hbw9 := hbw8.trans (hb9.mono hbw8.size)
    have hAX := HA9.alloc (.cells #[.int .i64 k1, .string ho1, .string hn1, .string wh1, .string ao1, .string an1, .string bo1, .string bn1, .string v1] 25)
    have hBX := HB9.alloc (.cells #[.int .i64 k1, .string ho1, .string hn1, .string wh1, .string ao1, .string an1, .string bo1, .string bn1, .string v1] 25)
    have hXX := Box.new w9 #[.int .i64 k1, .string ho1, .string hn1, .string wh1, .string ao1, .string an1, .string bo1, .string bn1, .string v1] 25
    have hbwX := hbw9.alloc hbw9.size (.cells #[.int .i64 k1, .string ho1, .string hn1, .string wh1, .string ao1, .string an1, .string bo1, .string bn1, .string v1] 25)
    clear HA8 HB8 hbw8 hb9 HA9 HB9 hbw9
    unfold St.val
    go_wp2_with fail
    have hst : RowKit.Below (w9.alloc (.cells #[.int .i64 k1, .string ho1, .string hn1, .string wh1, .string ao1, .string an1, .string bo1, .string bn1, .string v1] 25)).heap.size (w9.alloc (.cells #[.int .i64 k1, .string ho1, .string hn1, .string wh1, .string ao1, .string an1, .string bo1, .string bn1, .string v1] 25)) (w9.alloc (.cells #[.int .i64 k1, .string ho1, .string hn1, .string wh1, .string ao1, .string an1, .string bo1, .string bn1, .string v1] 25)).drew ∧ (∀ o, (w9.alloc (.cells #[.int .i64 k1, .string ho1, .string hn1, .string wh1, .string ao1, .string an1, .string bo1, .string bn1, .string v1] 25)).drew.cell? ⟨w.heap.size, o, none⟩ = (#[.int .i64 k1, .string ho1, .string hn1, .string wh1, .string ao1, .string an1, .string bo1, .string bn1, .string v1] : Array Value)[o]?) ∧ (∀ o, (w9.alloc (.cells #[.int .i64 k1, .string ho1, .string hn1, .string wh1, .string ao1, .string an1, .string bo1, .string bn1, .string v1] 25)).drew.cell? ⟨w.heap.size + 1, o, none⟩ = (#[.int .i64 k2, .string ho2, .string hn2, .string wh2, .string ao2, .string an2, .string bo2, .string bn2, .string v2] : Array Value)[o]?) ∧ (∀ o, (w9.alloc (.cells #[.int .i64 k1, .string ho1, .string hn1, .string wh1, .string ao1, .string an1, .string bo1, .string bn1, .string v1] 25)).drew.cell? ⟨w9.heap.size, o, none⟩ = (#[.int .i64 k1, .string ho1, .string hn1, .string wh1, .string ao1, .string an1, .string bo1, .string bn1, .string v1] : Array Value)[o]?) := ⟨(Below.refl _ _).drew, hAX.2, hBX.2, hXX.2⟩
    have l1 := hAX.1
    have l2 := hBX.1
    have l3 := hXX.1
    clear hAX hBX hXX
    go_region_held3 (fun w' => RowKit.Below (w9.alloc (.cells #[.int .i64 k1, .string ho1, .string hn1, .string wh1, .string ao1, .string an1, .string bo1, .string bn1, .string v1] 25)).heap.size (w9.alloc (.cells #[.int .i64 k1, .string ho1, .string hn1, .string wh1, .string ao1, .string an1, .string bo1, .string bn1, .string v1] 25)) w' ∧ (∀ o, w'.cell? ⟨w.heap.size, o, none⟩ = (#[.int .i64 k1, .string ho1, .string hn1, .string wh1, .string ao1, .string an1, .string bo1, .string bn1, .string v1] : Array Value)[o]?) ∧ (∀ o, w'.cell? ⟨w.heap.size + 1, o, none⟩ = (#[.int .i64 k2, .string ho2, .string hn2, .string wh2, .string ao2, .string an2, .string bo2, .string bn2, .string v2] : Array Value)[o]?) ∧ (∀ o, w'.cell? ⟨w9.heap.size, o, none⟩ = (#[.int .i64 k1, .string ho1, .string hn1, .string wh1, .string ao1, .string an1, .string bo1, .string bn1, .string v1] : Array Value)[o]?))
      (first | with_reducible exact hst | with_reducible assumption | exact keep3 (by with_reducible assumption) l1 l2 l3 (by with_reducible assumption))
      (first | (go_at_call 13; ((with_reducible refine (HPra.out _).mono ?_); rintro e w' ⟨rfl, hg⟩; have hgb := hg.below; clear hg)) | (go_at_call 13; ((with_reducible refine (HPrb.out _).mono ?_); rintro e w' ⟨rfl, hg⟩; have hgb := hg.below; clear hg)) | (go_at_call 8; refine (lives _).mono ?_; rintro e w' ⟨rfl, hgb⟩))
    rename_i hHeld
    go_wp2_with fail
    go_ret
    exact ⟨rfl, hbwX.trans (hHeld.1.mono hbwX.size)⟩
end Go.Proofs.Ythhofldmieoneaa.SynB
