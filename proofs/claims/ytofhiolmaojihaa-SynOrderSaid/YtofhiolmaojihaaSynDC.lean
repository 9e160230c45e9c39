/- The order of statements: the walk of the statement's function. -/
import Derived.Test.YtofhiolmaojihaaSynD9
import Derived.Test.YtofhiolmaojihaaSynDB
import Derived.Test.YtofhiolmaojihaaSynF
import Derived.Test.YtofhiolmaojihaaSynM
import Derived.Deep.RegionHeld3
namespace Go.Proofs.Ytofhiolmaojihaa.SynDC
open Go.RowKit Go.Sort Go.Proofs Go.Proofs.Ytofhiolmaojihaa.Plain Go.Proofs.Ytofhiolmaojihaa.SynP Go.Proofs.Ytofhiolmaojihaa.Grown Go.Proofs.Ytofhiolmaojihaa.SynE Go.Proofs.Ytofhiolmaojihaa.SynM Go.Proofs.Ytofhiolmaojihaa.SynN Go.Proofs.Ytofhiolmaojihaa.SynD Go.Proofs.Ytofhiolmaojihaa.SynD2 Go.Proofs.Ytofhiolmaojihaa.SynD3
set_option linter.unusedVariables false
set_option linter.unusedSimpArgs false
def Unit3 (x : Int) : Prop := x = -1 ∨ x = 0 ∨ x = 1
theorem unit_or : ∀ {l : List Int}, (∀ x ∈ l, Unit3 x) → Unit3 (orL l)
  | [], _ => .inr (.inl rfl)
  | x :: l, h => by
    rw [orL_cons']
    split
    · exact h x List.mem_cons_self
    · exact unit_or fun y hy => h y (List.mem_cons_of_mem _ hy)
theorem unit_B (a b : ByteArray) : Unit3 (cmpB a b) := by
  unfold cmpB Unit3; split
  · exact .inl rfl
  · split
    · exact .inr (.inr rfl)
    · exact .inr (.inl rfl)
theorem unit_N (a b : Int) : Unit3 (cmpN a b) := by
  unfold cmpN Unit3; split
  · exact .inl rfl
  · split
    · exact .inr (.inr rfl)
    · exact .inr (.inl rfl)
theorem unit_R (a b : Rl) : Unit3 (cmpR a b) := unit_or fun x hx => by
  simp at hx
  rcases hx with rfl | rfl <;> exact unit_B _ _
theorem unit_S (a b : St) : Unit3 (cmpS a b) := unit_or fun x hx => by
  simp at hx
  rcases hx with rfl | rfl | rfl | rfl | rfl | rfl
  · exact unit_R _ _
  · exact unit_N _ _
  · exact unit_B _ _
  · exact unit_R _ _
  · exact unit_R _ _
  · exact unit_B _ _
theorem keepO {W w1 w2 : World} {n m : Nat} {f g : Nat → Option Value} (h : RowKit.Below W.heap.size W w1 ∧ (∀ o, w1.cell? ⟨n, o, none⟩ = f o) ∧ (∀ o, w1.cell? ⟨m, o, none⟩ = g o)) (hn : n < W.heap.size) (hm : m < W.heap.size) (hb : RowKit.Below w1.heap.size w1 w2) : RowKit.Below W.heap.size W w2 ∧ (∀ o, w2.cell? ⟨n, o, none⟩ = f o) ∧ (∀ o, w2.cell? ⟨m, o, none⟩ = g o) := by
  have hs := h.1.size
  exact ⟨h.1.trans (hb.mono hs), fun o => (hb.cell (p := ⟨n, o, none⟩) (by show n < _; omega)).trans (h.2.1 o), fun o => (hb.cell (p := ⟨m, o, none⟩) (by show m < _; omega)).trans (h.2.2 o)⟩
set_option maxHeartbeats 4000000 in
set_option maxRecDepth 1000000 in
theorem walkL (k1 : Int) (ho1 hn1 wh1 ao1 an1 bo1 bn1 v1 : ByteArray) (k2 : Int) (ho2 hn2 wh2 ao2 an2 bo2 bn2 v2 : ByteArray) (A : Option Addr) (ca : Nat) (L : List St) (w : World) (hL : L.length ≤ 20) (hA : StAt w A L) (la : lightS ⟨k1, ⟨ho1, hn1⟩, wh1, ⟨ao1, an1⟩, ⟨bo1, bn1⟩, v1⟩ = true) (lb : lightS ⟨k2, ⟨ho2, hn2⟩, wh2, ⟨ao2, an2⟩, ⟨bo2, bn2⟩, v2⟩ = true)
    (hc : cmpS ⟨k1, ⟨ho1, hn1⟩, wh1, ⟨ao1, an1⟩, ⟨bo1, bn1⟩, v1⟩ ⟨k2, ⟨ho2, hn2⟩, wh2, ⟨ao2, an2⟩, ⟨bo2, bn2⟩, v2⟩ = (-1)) (hn : cmpS ⟨k2, ⟨ho2, hn2⟩, wh2, ⟨ao2, an2⟩, ⟨bo2, bn2⟩, v2⟩ ⟨k1, ⟨ho1, hn1⟩, wh1, ⟨ao1, an1⟩, ⟨bo1, bn1⟩, v1⟩ = 1) (he : decide ((⟨k1, ⟨ho1, hn1⟩, wh1, ⟨ao1, an1⟩, ⟨bo1, bn1⟩, v1⟩ : St) = ⟨k2, ⟨ho2, hn2⟩, wh2, ⟨ao2, an2⟩, ⟨bo2, bn2⟩, v2⟩) = false) :
    Calls Try.prog 4 #[.agg #[.int .i64 k1, .string ho1, .string hn1, .string wh1, .string ao1, .string an1, .string bo1, .string bn1, .string v1], .agg #[.int .i64 k2, .string ho2, .string hn2, .string wh2, .string ao2, .string an2, .string bo2, .string bn2, .string v2], .slice A L.length ca] w fun e w' => e = .returned (.bool true) ∧ RowKit.Below w.heap.size w w' := by
  have HLa := Lib.hid (light ⟨k1, ⟨ho1, hn1⟩, wh1, ⟨ao1, an1⟩, ⟨bo1, bn1⟩, v1⟩)
  have HLb := Lib.hid (light ⟨k2, ⟨ho2, hn2⟩, wh2, ⟨ao2, an2⟩, ⟨bo2, bn2⟩, v2⟩)
  rw [la] at HLa
  rw [lb] at HLb
  have HB1 := Lib.hid (fun w => Syn3.before ⟨k1, ⟨ho1, hn1⟩, wh1, ⟨ao1, an1⟩, ⟨bo1, bn1⟩, v1⟩ ⟨k2, ⟨ho2, hn2⟩, wh2, ⟨ao2, an2⟩, ⟨bo2, bn2⟩, v2⟩ w)
  have HB2 := Lib.hid (fun w => Syn3.before ⟨k2, ⟨ho2, hn2⟩, wh2, ⟨ao2, an2⟩, ⟨bo2, bn2⟩, v2⟩ ⟨k1, ⟨ho1, hn1⟩, wh1, ⟨ao1, an1⟩, ⟨bo1, bn1⟩, v1⟩ w)
  have HO1 := Lib.hid (fun w => Syn3.order ⟨k1, ⟨ho1, hn1⟩, wh1, ⟨ao1, an1⟩, ⟨bo1, bn1⟩, v1⟩ ⟨k2, ⟨ho2, hn2⟩, wh2, ⟨ao2, an2⟩, ⟨bo2, bn2⟩, v2⟩ w)
  have HO2 := Lib.hid (fun w => Syn3.order ⟨k2, ⟨ho2, hn2⟩, wh2, ⟨ao2, an2⟩, ⟨bo2, bn2⟩, v2⟩ ⟨k1, ⟨ho1, hn1⟩, wh1, ⟨ao1, an1⟩, ⟨bo1, bn1⟩, v1⟩ w)
  rw [hc, show decide (((-1) : Int) < 0) = true by decide] at HB1
  rw [hn, show decide ((1 : Int) < 0) = false by decide] at HB2
  rw [hc] at HO1
  rw [hn] at HO2
  have HS1 := Lib.hid (fun w => Syn2.less ⟨ao1, an1⟩ ⟨ao2, an2⟩ w)
  have HS2 := Lib.hid (fun w => Syn2.lessRef ⟨ao1, an1⟩ ⟨ao2, an2⟩ w)
  generalize (decide (cmpR ⟨ao1, an1⟩ ⟨ao2, an2⟩ < 0) : Bool) = lr at HS1 HS2
  have hq := fun w => eqS k1 ho1 hn1 wh1 ao1 an1 bo1 bn1 v1 k2 ho2 hn2 wh2 ao2 an2 bo2 bn2 v2 w
  rw [he] at hq
  have HA := Lib.hid hA
  have HQ := Lib.hid hq
  clear hA la lb hc hn he hq
  unfold St.val at *
  go_enter Try.func4, Try.ntmps4
  go_wp2_with fail
  refine (HLa.out _).mono ?_
  rintro e w1 ⟨rfl, hg1⟩
  obtain ⟨hc1, hf1, hz1⟩ := hg1.use
  go_wp2_with fail
  refine (HLb.out _).mono ?_
  rintro e w2 ⟨rfl, hg2⟩
  have hb12 := (hg1.trans hg2).below
  clear hc1 hf1 hz1 hg1 hg2
  have hbox1 : ∀ o, w2.cell? ⟨w.heap.size, o, none⟩ = (#[.int .i64 k1, .string ho1, .string hn1, .string wh1, .string ao1, .string an1, .string bo1, .string bn1, .string v1] : Array Value)[o]? := fun o => (hb12.cell (p := ⟨w.heap.size, o, none⟩) (by simp; omega)).trans ((World.cell?_alloc_past _ _ _ (by simp)).trans (Lib.cell_of_heap (heap_alloc_new w _) o))
  have hbox2 : ∀ o, w2.cell? ⟨w.heap.size + 1, o, none⟩ = (#[.int .i64 k2, .string ho2, .string hn2, .string wh2, .string ao2, .string an2, .string bo2, .string bn2, .string v2] : Array Value)[o]? := fun o => (hb12.cell (p := ⟨w.heap.size + 1, o, none⟩) (by simp)).trans (by have := Lib.cell_of_heap (heap_alloc_new (w.alloc (.cells #[.int .i64 k1, .string ho1, .string hn1, .string wh1, .string ao1, .string an1, .string bo1, .string bn1, .string v1] 25)) (.cells #[.int .i64 k2, .string ho2, .string hn2, .string wh2, .string ao2, .string an2, .string bo2, .string bn2, .string v2] 25)) o; rw [World.size_alloc] at this; exact this)
  have hz2 := hb12.size
  simp only [World.size_alloc] at hz2
  have hbw := Lib.hid ((((Below.refl w.heap.size w).alloc (Nat.le_refl _) (.cells #[.int .i64 k1, .string ho1, .string hn1, .string wh1, .string ao1, .string an1, .string bo1, .string bn1, .string v1] 25)).alloc (by simp) (.cells #[.int .i64 k2, .string ho2, .string hn2, .string wh2, .string ao2, .string an2, .string bo2, .string bn2, .string v2] 25)).trans (hb12.mono (by simp only [World.size_alloc]; omega)))
  have hX1 := Lib.hid hbox1
  have hX2 := Lib.hid hbox2
  clear hb12 hbox1 hbox2
  go_wp2_with fail
  go_loopg [26] L.length (fun gh u26 wr => ∃ i : Nat, i ≤ L.length ∧ L.length - i ≤ gh ∧ u26 = .int .i64 i ∧ RowKit.Below w2.heap.size w2 wr)
  case atStart => exact ⟨0, by omega, by omega, rfl, Below.refl _ _⟩
  case round =>
    obtain ⟨i, hi, hgh, rfl, hbr⟩ := hrel
    have hbW := Lib.hid (hbw.out.trans (hbr.mono (by omega)))
    have hzr := hbr.size
    by_cases hlt : i < L.length
    · obtain ⟨g0, o0, rfl, hg0, hc0⟩ := (HA.out.below hbW.out).nine i hlt
      generalize L[i] = s at hc0
      obtain ⟨k3, ⟨ho3, hn3⟩, wh3, ⟨ao3, an3⟩, ⟨bo3, bn3⟩, v3⟩ := s
      have a0 := hc0 0 _ rfl
      have a1 := hc0 1 _ rfl
      have a2 := hc0 2 _ rfl
      have a3 := hc0 3 _ rfl
      have a4 := hc0 4 _ rfl
      have a5 := hc0 5 _ rfl
      have a6 := hc0 6 _ rfl
      have a7 := hc0 7 _ rfl
      have a8 := hc0 8 _ rfl
      rw [Nat.add_zero] at a0
      simp only [← Nat.add_assoc] at a1 a2 a3 a4 a5 a6 a7 a8
      have p1 : (0 : Int) ≤ i := by omega
      have p2 : (i : Int) < L.length := by omega
      have HLs := Lib.hid (light ⟨k3, ⟨ho3, hn3⟩, wh3, ⟨ao3, an3⟩, ⟨bo3, bn3⟩, v3⟩)
      clear hc0
      cases hls : lightS ⟨k3, ⟨ho3, hn3⟩, wh3, ⟨ao3, an3⟩, ⟨bo3, bn3⟩, v3⟩
      all_goals
        rw [hls] at HLs
        clear hls
        go_wp2_with fail
        refine (HLs.out _).mono ?_
        rintro e w3 ⟨rfl, hg3⟩
        have hb3 := hg3.below
        clear hg3
        go_wp2_with fail
      · refine (lives _).mono ?_
        rintro e w4 ⟨rfl, hb4⟩
        go_wp2_with fail
        go_ret
        have q := hb3.size
        simp only [World.size_alloc] at q
        have q2 := hbW.out.size
        exact ⟨rfl, ((hbW.out.alloc hbW.out.size _).trans (hb3.mono (by simp only [World.size_alloc]; omega))).trans (hb4.mono (by omega))⟩
      · go_roundg (L.length - (i + 1))
        case measure => omega
        case rel => exact ⟨i + 1, by omega, Nat.le_refl _, by go_num, (hbr.alloc hbr.size _).trans (hb3.mono (by simp only [World.size_alloc]; omega))⟩
    · have x1 := fun o => (hbr.cell (p := ⟨w.heap.size, o, none⟩) (by show w.heap.size < _; omega)).trans (hX1.out o)
      have x2 := fun o => (hbr.cell (p := ⟨w.heap.size + 1, o, none⟩) (by show w.heap.size + 1 < _; omega)).trans (hX2.out o)
      have hzz : w.heap.size + 1 < wr.heap.size := by omega
      have hzy : w.heap.size < wr.heap.size := by omega
      have d1 : decide ((i : Int) < L.length) = false := by simp; omega
      clear hbr hX1 hX2 hbw
      go_wp2_with fail
      refine (HB1.out _).mono ?_
      rintro e w5 ⟨rfl, hg5⟩
      have y1 := fun o => (hg5.cell (a := ⟨w.heap.size, o, none⟩) hzy).trans (x1 o)
      have y2 := fun o => (hg5.cell (a := ⟨w.heap.size + 1, o, none⟩) hzz).trans (x2 o)
      have hb5 := hbW.out.trans (hg5.below.mono (by omega))
      have hz5 := hg5.size
      clear x1 x2 hg5 hbW
      go_wp2_with fail
      refine (HB2.out _).mono ?_
      rintro e w6 ⟨rfl, hg6⟩
      have u1 := fun o => (hg6.cell (a := ⟨w.heap.size, o, none⟩) (by show w.heap.size < _; omega)).trans (y1 o)
      have u2 := fun o => (hg6.cell (a := ⟨w.heap.size + 1, o, none⟩) (by show w.heap.size + 1 < _; omega)).trans (y2 o)
      have hb6 := Lib.hid (hb5.trans (hg6.below.mono (by omega)))
      have hz6 : w.heap.size + 1 < w6.heap.size := by have := hg6.size; omega
      have hz7 : w.heap.size < w6.heap.size := by omega
      clear y1 y2 hg6 hb5 hz5 hzz hzy hzr
      go_wp2_with fail
      have hlen : (sortL cmpS [] L).length ≤ 1000 := by
        have := SynDA.sortL_len (c := cmpS) L []
        simp at this; omega
      have HT1 : Hid (∀ w', RowKit.Below w6.heap.size w6 w' → Calls Try.prog 26 #[.slice A L.length ca] w' fun e w'' => ∃ A' c', e = .returned (.slice A' (sortL cmpS [] L).length c') ∧ StRow w'' A' (sortL cmpS [] L) ∧ RowKit.Below w'.heap.size w' w'') := Lib.hid (fun w' hb => SynD9.sort A ca L w' (by omega) (HA.out.below (hb6.out.trans (hb.mono (by omega)))))
      have HT2 : Hid (∀ w', RowKit.Below w6.heap.size w6 w' → Calls Try.prog 27 #[.slice A L.length ca] w' fun e w'' => ∃ A' c', e = .returned (.slice A' (sortL cmpS [] L).length c') ∧ StRow w'' A' (sortL cmpS [] L) ∧ RowKit.Below w'.heap.size w' w'') := Lib.hid (fun w' hb => SynDB.sortRef A ca L w' (by omega) (HA.out.below (hb6.out.trans (hb.mono (by omega)))))
      generalize hMM : sortL cmpS [] L = M at *
      have hst : RowKit.Below w6.heap.size w6 w6.drew ∧ (∀ o, w6.drew.cell? ⟨w.heap.size, o, none⟩ = (#[.int .i64 k1, .string ho1, .string hn1, .string wh1, .string ao1, .string an1, .string bo1, .string bn1, .string v1] : Array Value)[o]?) ∧ (∀ o, w6.drew.cell? ⟨w.heap.size + 1, o, none⟩ = (#[.int .i64 k2, .string ho2, .string hn2, .string wh2, .string ao2, .string an2, .string bo2, .string bn2, .string v2] : Array Value)[o]?) := ⟨(Below.refl _ _).drew, u1, u2⟩
      have hq := HQ.out
      have hz0 : (((-1) : Int) == 0) = false := by decide
      have hw0 : IntKind.i64.wrap (1) = 1 := by rw [IntKind.wrap_i64] <;> omega
      clear u1 u2 HLa HLb HB1 HB2 HA hMM HQ d1 hlt hi hgh hL hz2
      go_region_held3 (fun w' => RowKit.Below w6.heap.size w6 w' ∧ (∀ o, w'.cell? ⟨w.heap.size, o, none⟩ = (#[.int .i64 k1, .string ho1, .string hn1, .string wh1, .string ao1, .string an1, .string bo1, .string bn1, .string v1] : Array Value)[o]?) ∧ (∀ o, w'.cell? ⟨w.heap.size + 1, o, none⟩ = (#[.int .i64 k2, .string ho2, .string hn2, .string wh2, .string ao2, .string an2, .string bo2, .string bn2, .string v2] : Array Value)[o]?))
        (first | with_reducible exact hst | with_reducible assumption | exact keepO (by with_reducible assumption) hz7 hz6 (by with_reducible assumption))
        (first | (go_at_call 22; with_reducible refine (HO1.out _).mono ?_; rintro e w' ⟨rfl, hg⟩; have hgb := hg.below; clear hg) | (go_at_call 22; with_reducible refine (HO2.out _).mono ?_; rintro e w' ⟨rfl, hg⟩; have hgb := hg.below; clear hg) | (go_at_call 23; refine (HS1.out _).mono ?_; rintro e w' ⟨rfl, hg⟩; have hgb := hg.below; clear hg) | (go_at_call 24; refine (HS2.out _).mono ?_; rintro e w' ⟨rfl, hg⟩; have hgb := hg.below; clear hg) | (go_at_call 26; refine (HT1.out _ (by apply And.left; with_reducible assumption)).mono ?_; rintro e w' ⟨A9, c9, rfl, hr9, hgb⟩) | (go_at_call 27; refine (HT2.out _ (by apply And.left; with_reducible assumption)).mono ?_; rintro e w' ⟨A8, c8, rfl, hr8, hgb⟩) | (go_at_call 25; refine (sameSt _ _ _ _ M _ hlen (hr9.below (by with_reducible assumption)) hr8).mono ?_; rintro e w' ⟨rfl, hgb⟩) | (go_at_call 8; refine (lives _).mono ?_; rintro e w' ⟨rfl, hgb⟩))
      rename_i hHeld
      go_wp2_with fail
      go_ret
      exact ⟨rfl, hb6.out.trans (hHeld.1.mono (by omega))⟩
set_option maxHeartbeats 4000000 in
set_option maxRecDepth 1000000 in
theorem walkE (k1 : Int) (ho1 hn1 wh1 ao1 an1 bo1 bn1 v1 : ByteArray) (k2 : Int) (ho2 hn2 wh2 ao2 an2 bo2 bn2 v2 : ByteArray) (A : Option Addr) (ca : Nat) (L : List St) (w : World) (hL : L.length ≤ 20) (hA : StAt w A L) (la : lightS ⟨k1, ⟨ho1, hn1⟩, wh1, ⟨ao1, an1⟩, ⟨bo1, bn1⟩, v1⟩ = true) (lb : lightS ⟨k2, ⟨ho2, hn2⟩, wh2, ⟨ao2, an2⟩, ⟨bo2, bn2⟩, v2⟩ = true)
    (hc : cmpS ⟨k1, ⟨ho1, hn1⟩, wh1, ⟨ao1, an1⟩, ⟨bo1, bn1⟩, v1⟩ ⟨k2, ⟨ho2, hn2⟩, wh2, ⟨ao2, an2⟩, ⟨bo2, bn2⟩, v2⟩ = 0) (hn : cmpS ⟨k2, ⟨ho2, hn2⟩, wh2, ⟨ao2, an2⟩, ⟨bo2, bn2⟩, v2⟩ ⟨k1, ⟨ho1, hn1⟩, wh1, ⟨ao1, an1⟩, ⟨bo1, bn1⟩, v1⟩ = 0) (he : decide ((⟨k1, ⟨ho1, hn1⟩, wh1, ⟨ao1, an1⟩, ⟨bo1, bn1⟩, v1⟩ : St) = ⟨k2, ⟨ho2, hn2⟩, wh2, ⟨ao2, an2⟩, ⟨bo2, bn2⟩, v2⟩) = true) :
    Calls Try.prog 4 #[.agg #[.int .i64 k1, .string ho1, .string hn1, .string wh1, .string ao1, .string an1, .string bo1, .string bn1, .string v1], .agg #[.int .i64 k2, .string ho2, .string hn2, .string wh2, .string ao2, .string an2, .string bo2, .string bn2, .string v2], .slice A L.length ca] w fun e w' => e = .returned (.bool true) ∧ RowKit.Below w.heap.size w w' := by
  have HLa := Lib.hid (light ⟨k1, ⟨ho1, hn1⟩, wh1, ⟨ao1, an1⟩, ⟨bo1, bn1⟩, v1⟩)
  have HLb := Lib.hid (light ⟨k2, ⟨ho2, hn2⟩, wh2, ⟨ao2, an2⟩, ⟨bo2, bn2⟩, v2⟩)
  rw [la] at HLa
  rw [lb] at HLb
  have HB1 := Lib.hid (fun w => Syn3.before ⟨k1, ⟨ho1, hn1⟩, wh1, ⟨ao1, an1⟩, ⟨bo1, bn1⟩, v1⟩ ⟨k2, ⟨ho2, hn2⟩, wh2, ⟨ao2, an2⟩, ⟨bo2, bn2⟩, v2⟩ w)
  have HB2 := Lib.hid (fun w => Syn3.before ⟨k2, ⟨ho2, hn2⟩, wh2, ⟨ao2, an2⟩, ⟨bo2, bn2⟩, v2⟩ ⟨k1, ⟨ho1, hn1⟩, wh1, ⟨ao1, an1⟩, ⟨bo1, bn1⟩, v1⟩ w)
  have HO1 := Lib.hid (fun w => Syn3.order ⟨k1, ⟨ho1, hn1⟩, wh1, ⟨ao1, an1⟩, ⟨bo1, bn1⟩, v1⟩ ⟨k2, ⟨ho2, hn2⟩, wh2, ⟨ao2, an2⟩, ⟨bo2, bn2⟩, v2⟩ w)
  have HO2 := Lib.hid (fun w => Syn3.order ⟨k2, ⟨ho2, hn2⟩, wh2, ⟨ao2, an2⟩, ⟨bo2, bn2⟩, v2⟩ ⟨k1, ⟨ho1, hn1⟩, wh1, ⟨ao1, an1⟩, ⟨bo1, bn1⟩, v1⟩ w)
  rw [hc, show decide ((0 : Int) < 0) = false by decide] at HB1
  rw [hn, show decide ((0 : Int) < 0) = false by decide] at HB2
  rw [hc] at HO1
  rw [hn] at HO2
  have HS1 := Lib.hid (fun w => Syn2.less ⟨ao1, an1⟩ ⟨ao2, an2⟩ w)
  have HS2 := Lib.hid (fun w => Syn2.lessRef ⟨ao1, an1⟩ ⟨ao2, an2⟩ w)
  generalize (decide (cmpR ⟨ao1, an1⟩ ⟨ao2, an2⟩ < 0) : Bool) = lr at HS1 HS2
  have hq := fun w => eqS k1 ho1 hn1 wh1 ao1 an1 bo1 bn1 v1 k2 ho2 hn2 wh2 ao2 an2 bo2 bn2 v2 w
  rw [he] at hq
  have HA := Lib.hid hA
  have HQ := Lib.hid hq
  clear hA la lb hc hn he hq
  unfold St.val at *
  go_enter Try.func4, Try.ntmps4
  go_wp2_with fail
  refine (HLa.out _).mono ?_
  rintro e w1 ⟨rfl, hg1⟩
  obtain ⟨hc1, hf1, hz1⟩ := hg1.use
  go_wp2_with fail
  refine (HLb.out _).mono ?_
  rintro e w2 ⟨rfl, hg2⟩
  have hb12 := (hg1.trans hg2).below
  clear hc1 hf1 hz1 hg1 hg2
  have hbox1 : ∀ o, w2.cell? ⟨w.heap.size, o, none⟩ = (#[.int .i64 k1, .string ho1, .string hn1, .string wh1, .string ao1, .string an1, .string bo1, .string bn1, .string v1] : Array Value)[o]? := fun o => (hb12.cell (p := ⟨w.heap.size, o, none⟩) (by simp; omega)).trans ((World.cell?_alloc_past _ _ _ (by simp)).trans (Lib.cell_of_heap (heap_alloc_new w _) o))
  have hbox2 : ∀ o, w2.cell? ⟨w.heap.size + 1, o, none⟩ = (#[.int .i64 k2, .string ho2, .string hn2, .string wh2, .string ao2, .string an2, .string bo2, .string bn2, .string v2] : Array Value)[o]? := fun o => (hb12.cell (p := ⟨w.heap.size + 1, o, none⟩) (by simp)).trans (by have := Lib.cell_of_heap (heap_alloc_new (w.alloc (.cells #[.int .i64 k1, .string ho1, .string hn1, .string wh1, .string ao1, .string an1, .string bo1, .string bn1, .string v1] 25)) (.cells #[.int .i64 k2, .string ho2, .string hn2, .string wh2, .string ao2, .string an2, .string bo2, .string bn2, .string v2] 25)) o; rw [World.size_alloc] at this; exact this)
  have hz2 := hb12.size
  simp only [World.size_alloc] at hz2
  have hbw := Lib.hid ((((Below.refl w.heap.size w).alloc (Nat.le_refl _) (.cells #[.int .i64 k1, .string ho1, .string hn1, .string wh1, .string ao1, .string an1, .string bo1, .string bn1, .string v1] 25)).alloc (by simp) (.cells #[.int .i64 k2, .string ho2, .string hn2, .string wh2, .string ao2, .string an2, .string bo2, .string bn2, .string v2] 25)).trans (hb12.mono (by simp only [World.size_alloc]; omega)))
  have hX1 := Lib.hid hbox1
  have hX2 := Lib.hid hbox2
  clear hb12 hbox1 hbox2
  go_wp2_with fail
  go_loopg [26] L.length (fun gh u26 wr => ∃ i : Nat, i ≤ L.length ∧ L.length - i ≤ gh ∧ u26 = .int .i64 i ∧ RowKit.Below w2.heap.size w2 wr)
  case atStart => exact ⟨0, by omega, by omega, rfl, Below.refl _ _⟩
  case round =>
    obtain ⟨i, hi, hgh, rfl, hbr⟩ := hrel
    have hbW := Lib.hid (hbw.out.trans (hbr.mono (by omega)))
    have hzr := hbr.size
    by_cases hlt : i < L.length
    · obtain ⟨g0, o0, rfl, hg0, hc0⟩ := (HA.out.below hbW.out).nine i hlt
      generalize L[i] = s at hc0
      obtain ⟨k3, ⟨ho3, hn3⟩, wh3, ⟨ao3, an3⟩, ⟨bo3, bn3⟩, v3⟩ := s
      have a0 := hc0 0 _ rfl
      have a1 := hc0 1 _ rfl
      have a2 := hc0 2 _ rfl
      have a3 := hc0 3 _ rfl
      have a4 := hc0 4 _ rfl
      have a5 := hc0 5 _ rfl
      have a6 := hc0 6 _ rfl
      have a7 := hc0 7 _ rfl
      have a8 := hc0 8 _ rfl
      rw [Nat.add_zero] at a0
      simp only [← Nat.add_assoc] at a1 a2 a3 a4 a5 a6 a7 a8
      have p1 : (0 : Int) ≤ i := by omega
      have p2 : (i : Int) < L.length := by omega
      have HLs := Lib.hid (light ⟨k3, ⟨ho3, hn3⟩, wh3, ⟨ao3, an3⟩, ⟨bo3, bn3⟩, v3⟩)
      clear hc0
      cases hls : lightS ⟨k3, ⟨ho3, hn3⟩, wh3, ⟨ao3, an3⟩, ⟨bo3, bn3⟩, v3⟩
      all_goals
        rw [hls] at HLs
        clear hls
        go_wp2_with fail
        refine (HLs.out _).mono ?_
        rintro e w3 ⟨rfl, hg3⟩
        have hb3 := hg3.below
        clear hg3
        go_wp2_with fail
      · refine (lives _).mono ?_
        rintro e w4 ⟨rfl, hb4⟩
        go_wp2_with fail
        go_ret
        have q := hb3.size
        simp only [World.size_alloc] at q
        have q2 := hbW.out.size
        exact ⟨rfl, ((hbW.out.alloc hbW.out.size _).trans (hb3.mono (by simp only [World.size_alloc]; omega))).trans (hb4.mono (by omega))⟩
      · go_roundg (L.length - (i + 1))
        case measure => omega
        case rel => exact ⟨i + 1, by omega, Nat.le_refl _, by go_num, (hbr.alloc hbr.size _).trans (hb3.mono (by simp only [World.size_alloc]; omega))⟩
    · have x1 := fun o => (hbr.cell (p := ⟨w.heap.size, o, none⟩) (by show w.heap.size < _; omega)).trans (hX1.out o)
      have x2 := fun o => (hbr.cell (p := ⟨w.heap.size + 1, o, none⟩) (by show w.heap.size + 1 < _; omega)).trans (hX2.out o)
      have hzz : w.heap.size + 1 < wr.heap.size := by omega
      have hzy : w.heap.size < wr.heap.size := by omega
      have d1 : decide ((i : Int) < L.length) = false := by simp; omega
      clear hbr hX1 hX2 hbw
      go_wp2_with fail
      refine (HB1.out _).mono ?_
      rintro e w5 ⟨rfl, hg5⟩
      have y1 := fun o => (hg5.cell (a := ⟨w.heap.size, o, none⟩) hzy).trans (x1 o)
      have y2 := fun o => (hg5.cell (a := ⟨w.heap.size + 1, o, none⟩) hzz).trans (x2 o)
      have hb5 := hbW.out.trans (hg5.below.mono (by omega))
      have hz5 := hg5.size
      clear x1 x2 hg5 hbW
      go_wp2_with fail
      refine (HB2.out _).mono ?_
      rintro e w6 ⟨rfl, hg6⟩
      have u1 := fun o => (hg6.cell (a := ⟨w.heap.size, o, none⟩) (by show w.heap.size < _; omega)).trans (y1 o)
      have u2 := fun o => (hg6.cell (a := ⟨w.heap.size + 1, o, none⟩) (by show w.heap.size + 1 < _; omega)).trans (y2 o)
      have hb6 := Lib.hid (hb5.trans (hg6.below.mono (by omega)))
      have hz6 : w.heap.size + 1 < w6.heap.size := by have := hg6.size; omega
      have hz7 : w.heap.size < w6.heap.size := by omega
      clear y1 y2 hg6 hb5 hz5 hzz hzy hzr
      go_wp2_with fail
      have hlen : (sortL cmpS [] L).length ≤ 1000 := by
        have := SynDA.sortL_len (c := cmpS) L []
        simp at this; omega
      have HT1 : Hid (∀ w', RowKit.Below w6.heap.size w6 w' → Calls Try.prog 26 #[.slice A L.length ca] w' fun e w'' => ∃ A' c', e = .returned (.slice A' (sortL cmpS [] L).length c') ∧ StRow w'' A' (sortL cmpS [] L) ∧ RowKit.Below w'.heap.size w' w'') := Lib.hid (fun w' hb => SynD9.sort A ca L w' (by omega) (HA.out.below (hb6.out.trans (hb.mono (by omega)))))
      have HT2 : Hid (∀ w', RowKit.Below w6.heap.size w6 w' → Calls Try.prog 27 #[.slice A L.length ca] w' fun e w'' => ∃ A' c', e = .returned (.slice A' (sortL cmpS [] L).length c') ∧ StRow w'' A' (sortL cmpS [] L) ∧ RowKit.Below w'.heap.size w' w'') := Lib.hid (fun w' hb => SynDB.sortRef A ca L w' (by omega) (HA.out.below (hb6.out.trans (hb.mono (by omega)))))
      generalize hMM : sortL cmpS [] L = M at *
      have hst : RowKit.Below w6.heap.size w6 w6.drew ∧ (∀ o, w6.drew.cell? ⟨w.heap.size, o, none⟩ = (#[.int .i64 k1, .string ho1, .string hn1, .string wh1, .string ao1, .string an1, .string bo1, .string bn1, .string v1] : Array Value)[o]?) ∧ (∀ o, w6.drew.cell? ⟨w.heap.size + 1, o, none⟩ = (#[.int .i64 k2, .string ho2, .string hn2, .string wh2, .string ao2, .string an2, .string bo2, .string bn2, .string v2] : Array Value)[o]?) := ⟨(Below.refl _ _).drew, u1, u2⟩
      have hq := HQ.out
      have hz0 : ((0 : Int) == 0) = true := by decide
      have hw0 : IntKind.i64.wrap (0) = 0 := by rw [IntKind.wrap_i64] <;> omega
      clear u1 u2 HLa HLb HB1 HB2 HA hMM HQ d1 hlt hi hgh hL hz2
      go_region_held3 (fun w' => RowKit.Below w6.heap.size w6 w' ∧ (∀ o, w'.cell? ⟨w.heap.size, o, none⟩ = (#[.int .i64 k1, .string ho1, .string hn1, .string wh1, .string ao1, .string an1, .string bo1, .string bn1, .string v1] : Array Value)[o]?) ∧ (∀ o, w'.cell? ⟨w.heap.size + 1, o, none⟩ = (#[.int .i64 k2, .string ho2, .string hn2, .string wh2, .string ao2, .string an2, .string bo2, .string bn2, .string v2] : Array Value)[o]?))
        (first | with_reducible exact hst | with_reducible assumption | exact keepO (by with_reducible assumption) hz7 hz6 (by with_reducible assumption))
        (first | (go_at_call 22; with_reducible refine (HO1.out _).mono ?_; rintro e w' ⟨rfl, hg⟩; have hgb := hg.below; clear hg) | (go_at_call 22; with_reducible refine (HO2.out _).mono ?_; rintro e w' ⟨rfl, hg⟩; have hgb := hg.below; clear hg) | (go_at_call 23; refine (HS1.out _).mono ?_; rintro e w' ⟨rfl, hg⟩; have hgb := hg.below; clear hg) | (go_at_call 24; refine (HS2.out _).mono ?_; rintro e w' ⟨rfl, hg⟩; have hgb := hg.below; clear hg) | (go_at_call 26; refine (HT1.out _ (by apply And.left; with_reducible assumption)).mono ?_; rintro e w' ⟨A9, c9, rfl, hr9, hgb⟩) | (go_at_call 27; refine (HT2.out _ (by apply And.left; with_reducible assumption)).mono ?_; rintro e w' ⟨A8, c8, rfl, hr8, hgb⟩) | (go_at_call 25; refine (sameSt _ _ _ _ M _ hlen (hr9.below (by with_reducible assumption)) hr8).mono ?_; rintro e w' ⟨rfl, hgb⟩) | (go_at_call 8; refine (lives _).mono ?_; rintro e w' ⟨rfl, hgb⟩))
      rename_i hHeld
      go_wp2_with fail
      go_ret
      exact ⟨rfl, hb6.out.trans (hHeld.1.mono (by omega))⟩
set_option maxHeartbeats 4000000 in
set_option maxRecDepth 1000000 in
theorem walkG (k1 : Int) (ho1 hn1 wh1 ao1 an1 bo1 bn1 v1 : ByteArray) (k2 : Int) (ho2 hn2 wh2 ao2 an2 bo2 bn2 v2 : ByteArray) (A : Option Addr) (ca : Nat) (L : List St) (w : World) (hL : L.length ≤ 20) (hA : StAt w A L) (la : lightS ⟨k1, ⟨ho1, hn1⟩, wh1, ⟨ao1, an1⟩, ⟨bo1, bn1⟩, v1⟩ = true) (lb : lightS ⟨k2, ⟨ho2, hn2⟩, wh2, ⟨ao2, an2⟩, ⟨bo2, bn2⟩, v2⟩ = true)
    (hc : cmpS ⟨k1, ⟨ho1, hn1⟩, wh1, ⟨ao1, an1⟩, ⟨bo1, bn1⟩, v1⟩ ⟨k2, ⟨ho2, hn2⟩, wh2, ⟨ao2, an2⟩, ⟨bo2, bn2⟩, v2⟩ = 1) (hn : cmpS ⟨k2, ⟨ho2, hn2⟩, wh2, ⟨ao2, an2⟩, ⟨bo2, bn2⟩, v2⟩ ⟨k1, ⟨ho1, hn1⟩, wh1, ⟨ao1, an1⟩, ⟨bo1, bn1⟩, v1⟩ = (-1)) (he : decide ((⟨k1, ⟨ho1, hn1⟩, wh1, ⟨ao1, an1⟩, ⟨bo1, bn1⟩, v1⟩ : St) = ⟨k2, ⟨ho2, hn2⟩, wh2, ⟨ao2, an2⟩, ⟨bo2, bn2⟩, v2⟩) = false) :
    Calls Try.prog 4 #[.agg #[.int .i64 k1, .string ho1, .string hn1, .string wh1, .string ao1, .string an1, .string bo1, .string bn1, .string v1], .agg #[.int .i64 k2, .string ho2, .string hn2, .string wh2, .string ao2, .string an2, .string bo2, .string bn2, .string v2], .slice A L.length ca] w fun e w' => e = .returned (.bool true) ∧ RowKit.Below w.heap.size w w' := by
  have HLa := Lib.hid (light ⟨k1, ⟨ho1, hn1⟩, wh1, ⟨ao1, an1⟩, ⟨bo1, bn1⟩, v1⟩)
  have HLb := Lib.hid (light ⟨k2, ⟨ho2, hn2⟩, wh2, ⟨ao2, an2⟩, ⟨bo2, bn2⟩, v2⟩)
  rw [la] at HLa
  rw [lb] at HLb
  have HB1 := Lib.hid (fun w => Syn3.before ⟨k1, ⟨ho1, hn1⟩, wh1, ⟨ao1, an1⟩, ⟨bo1, bn1⟩, v1⟩ ⟨k2, ⟨ho2, hn2⟩, wh2, ⟨ao2, an2⟩, ⟨bo2, bn2⟩, v2⟩ w)
  have HB2 := Lib.hid (fun w => Syn3.before ⟨k2, ⟨ho2, hn2⟩, wh2, ⟨ao2, an2⟩, ⟨bo2, bn2⟩, v2⟩ ⟨k1, ⟨ho1, hn1⟩, wh1, ⟨ao1, an1⟩, ⟨bo1, bn1⟩, v1⟩ w)
  have HO1 := Lib.hid (fun w => Syn3.order ⟨k1, ⟨ho1, hn1⟩, wh1, ⟨ao1, an1⟩, ⟨bo1, bn1⟩, v1⟩ ⟨k2, ⟨ho2, hn2⟩, wh2, ⟨ao2, an2⟩, ⟨bo2, bn2⟩, v2⟩ w)
  have HO2 := Lib.hid (fun w => Syn3.order ⟨k2, ⟨ho2, hn2⟩, wh2, ⟨ao2, an2⟩, ⟨bo2, bn2⟩, v2⟩ ⟨k1, ⟨ho1, hn1⟩, wh1, ⟨ao1, an1⟩, ⟨bo1, bn1⟩, v1⟩ w)
  rw [hc, show decide ((1 : Int) < 0) = false by decide] at HB1
  rw [hn, show decide (((-1) : Int) < 0) = true by decide] at HB2
  rw [hc] at HO1
  rw [hn] at HO2
  have HS1 := Lib.hid (fun w => Syn2.less ⟨ao1, an1⟩ ⟨ao2, an2⟩ w)
  have HS2 := Lib.hid (fun w => Syn2.lessRef ⟨ao1, an1⟩ ⟨ao2, an2⟩ w)
  generalize (decide (cmpR ⟨ao1, an1⟩ ⟨ao2, an2⟩ < 0) : Bool) = lr at HS1 HS2
  have hq := fun w => eqS k1 ho1 hn1 wh1 ao1 an1 bo1 bn1 v1 k2 ho2 hn2 wh2 ao2 an2 bo2 bn2 v2 w
  rw [he] at hq
  have HA := Lib.hid hA
  have HQ := Lib.hid hq
  clear hA la lb hc hn he hq
  unfold St.val at *
  go_enter Try.func4, Try.ntmps4
  go_wp2_with fail
  refine (HLa.out _).mono ?_
  rintro e w1 ⟨rfl, hg1⟩
  obtain ⟨hc1, hf1, hz1⟩ := hg1.use
  go_wp2_with fail
  refine (HLb.out _).mono ?_
  rintro e w2 ⟨rfl, hg2⟩
  have hb12 := (hg1.trans hg2).below
  clear hc1 hf1 hz1 hg1 hg2
  have hbox1 : ∀ o, w2.cell? ⟨w.heap.size, o, none⟩ = (#[.int .i64 k1, .string ho1, .string hn1, .string wh1, .string ao1, .string an1, .string bo1, .string bn1, .string v1] : Array Value)[o]? := fun o => (hb12.cell (p := ⟨w.heap.size, o, none⟩) (by simp; omega)).trans ((World.cell?_alloc_past _ _ _ (by simp)).trans (Lib.cell_of_heap (heap_alloc_new w _) o))
  have hbox2 : ∀ o, w2.cell? ⟨w.heap.size + 1, o, none⟩ = (#[.int .i64 k2, .string ho2, .string hn2, .string wh2, .string ao2, .string an2, .string bo2, .string bn2, .string v2] : Array Value)[o]? := fun o => (hb12.cell (p := ⟨w.heap.size + 1, o, none⟩) (by simp)).trans (by have := Lib.cell_of_heap (heap_alloc_new (w.alloc (.cells #[.int .i64 k1, .string ho1, .string hn1, .string wh1, .string ao1, .string an1, .string bo1, .string bn1, .string v1] 25)) (.cells #[.int .i64 k2, .string ho2, .string hn2, .string wh2, .string ao2, .string an2, .string bo2, .string bn2, .string v2] 25)) o; rw [World.size_alloc] at this; exact this)
  have hz2 := hb12.size
  simp only [World.size_alloc] at hz2
  have hbw := Lib.hid ((((Below.refl w.heap.size w).alloc (Nat.le_refl _) (.cells #[.int .i64 k1, .string ho1, .string hn1, .string wh1, .string ao1, .string an1, .string bo1, .string bn1, .string v1] 25)).alloc (by simp) (.cells #[.int .i64 k2, .string ho2, .string hn2, .string wh2, .string ao2, .string an2, .string bo2, .string bn2, .string v2] 25)).trans (hb12.mono (by simp only [World.size_alloc]; omega)))
  have hX1 := Lib.hid hbox1
  have hX2 := Lib.hid hbox2
  clear hb12 hbox1 hbox2
  go_wp2_with fail
  go_loopg [26] L.length (fun gh u26 wr => ∃ i : Nat, i ≤ L.length ∧ L.length - i ≤ gh ∧ u26 = .int .i64 i ∧ RowKit.Below w2.heap.size w2 wr)
  case atStart => exact ⟨0, by omega, by omega, rfl, Below.refl _ _⟩
  case round =>
    obtain ⟨i, hi, hgh, rfl, hbr⟩ := hrel
    have hbW := Lib.hid (hbw.out.trans (hbr.mono (by omega)))
    have hzr := hbr.size
    by_cases hlt : i < L.length
    · obtain ⟨g0, o0, rfl, hg0, hc0⟩ := (HA.out.below hbW.out).nine i hlt
      generalize L[i] = s at hc0
      obtain ⟨k3, ⟨ho3, hn3⟩, wh3, ⟨ao3, an3⟩, ⟨bo3, bn3⟩, v3⟩ := s
      have a0 := hc0 0 _ rfl
      have a1 := hc0 1 _ rfl
      have a2 := hc0 2 _ rfl
      have a3 := hc0 3 _ rfl
      have a4 := hc0 4 _ rfl
      have a5 := hc0 5 _ rfl
      have a6 := hc0 6 _ rfl
      have a7 := hc0 7 _ rfl
      have a8 := hc0 8 _ rfl
      rw [Nat.add_zero] at a0
      simp only [← Nat.add_assoc] at a1 a2 a3 a4 a5 a6 a7 a8
      have p1 : (0 : Int) ≤ i := by omega
      have p2 : (i : Int) < L.length := by omega
      have HLs := Lib.hid (light ⟨k3, ⟨ho3, hn3⟩, wh3, ⟨ao3, an3⟩, ⟨bo3, bn3⟩, v3⟩)
      clear hc0
      cases hls : lightS ⟨k3, ⟨ho3, hn3⟩, wh3, ⟨ao3, an3⟩, ⟨bo3, bn3⟩, v3⟩
      all_goals
        rw [hls] at HLs
        clear hls
        go_wp2_with fail
        refine (HLs.out _).mono ?_
        rintro e w3 ⟨rfl, hg3⟩
        have hb3 := hg3.below
        clear hg3
        go_wp2_with fail
      · refine (lives _).mono ?_
        rintro e w4 ⟨rfl, hb4⟩
        go_wp2_with fail
        go_ret
        have q := hb3.size
        simp only [World.size_alloc] at q
        have q2 := hbW.out.size
        exact ⟨rfl, ((hbW.out.alloc hbW.out.size _).trans (hb3.mono (by simp only [World.size_alloc]; omega))).trans (hb4.mono (by omega))⟩
      · go_roundg (L.length - (i + 1))
        case measure => omega
        case rel => exact ⟨i + 1, by omega, Nat.le_refl _, by go_num, (hbr.alloc hbr.size _).trans (hb3.mono (by simp only [World.size_alloc]; omega))⟩
    · have x1 := fun o => (hbr.cell (p := ⟨w.heap.size, o, none⟩) (by show w.heap.size < _; omega)).trans (hX1.out o)
      have x2 := fun o => (hbr.cell (p := ⟨w.heap.size + 1, o, none⟩) (by show w.heap.size + 1 < _; omega)).trans (hX2.out o)
      have hzz : w.heap.size + 1 < wr.heap.size := by omega
      have hzy : w.heap.size < wr.heap.size := by omega
      have d1 : decide ((i : Int) < L.length) = false := by simp; omega
      clear hbr hX1 hX2 hbw
      go_wp2_with fail
      refine (HB1.out _).mono ?_
      rintro e w5 ⟨rfl, hg5⟩
      have y1 := fun o => (hg5.cell (a := ⟨w.heap.size, o, none⟩) hzy).trans (x1 o)
      have y2 := fun o => (hg5.cell (a := ⟨w.heap.size + 1, o, none⟩) hzz).trans (x2 o)
      have hb5 := hbW.out.trans (hg5.below.mono (by omega))
      have hz5 := hg5.size
      clear x1 x2 hg5 hbW
      go_wp2_with fail
      refine (HB2.out _).mono ?_
      rintro e w6 ⟨rfl, hg6⟩
      have u1 := fun o => (hg6.cell (a := ⟨w.heap.size, o, none⟩) (by show w.heap.size < _; omega)).trans (y1 o)
      have u2 := fun o => (hg6.cell (a := ⟨w.heap.size + 1, o, none⟩) (by show w.heap.size + 1 < _; omega)).trans (y2 o)
      have hb6 := Lib.hid (hb5.trans (hg6.below.mono (by omega)))
      have hz6 : w.heap.size + 1 < w6.heap.size := by have := hg6.size; omega
      have hz7 : w.heap.size < w6.heap.size := by omega
      clear y1 y2 hg6 hb5 hz5 hzz hzy hzr
      go_wp2_with fail
      have hlen : (sortL cmpS [] L).length ≤ 1000 := by
        have := SynDA.sortL_len (c := cmpS) L []
        simp at this; omega
      have HT1 : Hid (∀ w', RowKit.Below w6.heap.size w6 w' → Calls Try.prog 26 #[.slice A L.length ca] w' fun e w'' => ∃ A' c', e = .returned (.slice A' (sortL cmpS [] L).length c') ∧ StRow w'' A' (sortL cmpS [] L) ∧ RowKit.Below w'.heap.size w' w'') := Lib.hid (fun w' hb => SynD9.sort A ca L w' (by omega) (HA.out.below (hb6.out.trans (hb.mono (by omega)))))
      have HT2 : Hid (∀ w', RowKit.Below w6.heap.size w6 w' → Calls Try.prog 27 #[.slice A L.length ca] w' fun e w'' => ∃ A' c', e = .returned (.slice A' (sortL cmpS [] L).length c') ∧ StRow w'' A' (sortL cmpS [] L) ∧ RowKit.Below w'.heap.size w' w'') := Lib.hid (fun w' hb => SynDB.sortRef A ca L w' (by omega) (HA.out.below (hb6.out.trans (hb.mono (by omega)))))
      generalize hMM : sortL cmpS [] L = M at *
      have hst : RowKit.Below w6.heap.size w6 w6.drew ∧ (∀ o, w6.drew.cell? ⟨w.heap.size, o, none⟩ = (#[.int .i64 k1, .string ho1, .string hn1, .string wh1, .string ao1, .string an1, .string bo1, .string bn1, .string v1] : Array Value)[o]?) ∧ (∀ o, w6.drew.cell? ⟨w.heap.size + 1, o, none⟩ = (#[.int .i64 k2, .string ho2, .string hn2, .string wh2, .string ao2, .string an2, .string bo2, .string bn2, .string v2] : Array Value)[o]?) := ⟨(Below.refl _ _).drew, u1, u2⟩
      have hq := HQ.out
      have hz0 : ((1 : Int) == 0) = false := by decide
      have hw0 : IntKind.i64.wrap ((-1)) = (-1) := by rw [IntKind.wrap_i64] <;> omega
      clear u1 u2 HLa HLb HB1 HB2 HA hMM HQ d1 hlt hi hgh hL hz2
      go_region_held3 (fun w' => RowKit.Below w6.heap.size w6 w' ∧ (∀ o, w'.cell? ⟨w.heap.size, o, none⟩ = (#[.int .i64 k1, .string ho1, .string hn1, .string wh1, .string ao1, .string an1, .string bo1, .string bn1, .string v1] : Array Value)[o]?) ∧ (∀ o, w'.cell? ⟨w.heap.size + 1, o, none⟩ = (#[.int .i64 k2, .string ho2, .string hn2, .string wh2, .string ao2, .string an2, .string bo2, .string bn2, .string v2] : Array Value)[o]?))
        (first | with_reducible exact hst | with_reducible assumption | exact keepO (by with_reducible assumption) hz7 hz6 (by with_reducible assumption))
        (first | (go_at_call 22; with_reducible refine (HO1.out _).mono ?_; rintro e w' ⟨rfl, hg⟩; have hgb := hg.below; clear hg) | (go_at_call 22; with_reducible refine (HO2.out _).mono ?_; rintro e w' ⟨rfl, hg⟩; have hgb := hg.below; clear hg) | (go_at_call 23; refine (HS1.out _).mono ?_; rintro e w' ⟨rfl, hg⟩; have hgb := hg.below; clear hg) | (go_at_call 24; refine (HS2.out _).mono ?_; rintro e w' ⟨rfl, hg⟩; have hgb := hg.below; clear hg) | (go_at_call 26; refine (HT1.out _ (by apply And.left; with_reducible assumption)).mono ?_; rintro e w' ⟨A9, c9, rfl, hr9, hgb⟩) | (go_at_call 27; refine (HT2.out _ (by apply And.left; with_reducible assumption)).mono ?_; rintro e w' ⟨A8, c8, rfl, hr8, hgb⟩) | (go_at_call 25; refine (sameSt _ _ _ _ M _ hlen (hr9.below (by with_reducible assumption)) hr8).mono ?_; rintro e w' ⟨rfl, hgb⟩) | (go_at_call 8; refine (lives _).mono ?_; rintro e w' ⟨rfl, hgb⟩))
      rename_i hHeld
      go_wp2_with fail
      go_ret
      exact ⟨rfl, hb6.out.trans (hHeld.1.mono (by omega))⟩
end Go.Proofs.Ytofhiolmaojihaa.SynDC
