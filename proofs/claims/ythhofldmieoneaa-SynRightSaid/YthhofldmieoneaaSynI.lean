/- For every statement: the program's Right, IsRole, Print, Normal, Roles and PrintRole answer what the document's do; and the document's example stands. No condition. -/
import Derived.Test.YthhofldmieoneaaRows
import Derived.Test.YthhofldmieoneaaSynF
import Derived.Test.YthhofldmieoneaaSynJ
import Derived.Deep.RegionHeld3
namespace Go.Proofs.Ythhofldmieoneaa.SynI
open Go.RowKit Go.Sort Go.Proofs Go.Proofs.Ythhofldmieoneaa.Plain Go.Proofs.Ythhofldmieoneaa.SynP Go.Proofs.Ythhofldmieoneaa.Grown Go.Proofs.Ythhofldmieoneaa.SynE Go.Proofs.Ythhofldmieoneaa.Syn1 Go.Proofs.Ythhofldmieoneaa.Syn4 Go.Proofs.Ythhofldmieoneaa.Syn6 Go.Proofs.Ythhofldmieoneaa.Syn7 Go.Proofs.Ythhofldmieoneaa.Syn9 Go.Proofs.Ythhofldmieoneaa.SynL Go.Proofs.Ythhofldmieoneaa.SynM Go.Proofs.Ythhofldmieoneaa.SynN Go.Proofs.Ythhofldmieoneaa.SynJ
set_option linter.unusedVariables false
set_option linter.unusedSimpArgs false
theorem eqV (s : St) (w : World) : (binOp .eql 25 s.val s.val).run Try.prog w = .ok (.bool true) w := by
  have := eqS s.kind s.head.owner s.head.name s.who s.a.owner s.a.name s.b.owner s.b.name s.via s.kind s.head.owner s.head.name s.who s.a.owner s.a.name s.b.owner s.b.name s.via w
  rw [decide_eq_true rfl] at this
  exact this
theorem new2 (w : World) (a b : Value) (t : TypeId) {n : Nat} (hn : n = w.heap.size) : ∀ j u, [a, b][j]? = some u → (w.alloc (.cells #[a, b] t)).cell? ((⟨n, 0, none⟩ : Addr).add j) = some u := by
  subst hn
  intro j u hu
  rw [SynC.add_off, Nat.zero_add, Lib.cell_of_heap (heap_alloc_new w _), ← hu]
  simp
theorem own_first (w : World) (a b : Value) (t : TypeId) : (w.alloc (.cells #[a, b] t)).ownsRow w.heap.size t 2 (.slice (some ⟨w.heap.size, 0, none⟩) 1 1) 1 [a, b] := by
  refine ⟨by simp, .inr ⟨w.heap.size, 1, #[a, b], rfl, Nat.le_refl _, heap_alloc_new w _, by omega, ?_⟩⟩
  simp [maxLen]
theorem keepM {W w1 w2 : World} {n : Nat} {f : Nat → Option Value} (h : RowKit.Below W.heap.size W w1 ∧ (∀ o, w1.cell? ⟨n, o, none⟩ = f o)) (hn : n < W.heap.size) (hb : RowKit.Below w1.heap.size w1 w2) : RowKit.Below W.heap.size W w2 ∧ (∀ o, w2.cell? ⟨n, o, none⟩ = f o) := by
  have hs := h.1.size
  exact ⟨h.1.trans (hb.mono hs), fun o => (hb.cell (p := ⟨n, o, none⟩) (by show n < _; omega)).trans (h.2 o)⟩
set_option maxHeartbeats 4000000 in
set_option maxRecDepth 100000 in
theorem right1 (ho hn wh ao an bo bn v : ByteArray) (w : World) (hf : St.fit ⟨1, ⟨ho, hn⟩, wh, ⟨ao, an⟩, ⟨bo, bn⟩, v⟩) (hl : lightS ⟨1, ⟨ho, hn⟩, wh, ⟨ao, an⟩, ⟨bo, bn⟩, v⟩ = true) :
    Calls Try.prog 3 #[.agg #[.int .i64 1, .string ho, .string hn, .string wh, .string ao, .string an, .string bo, .string bn, .string v]] w fun e w' => e = .returned (.bool true) ∧ RowKit.Below w.heap.size w w' := by
  obtain ⟨i0, hi, hz0, hz1, hz2⟩ := info_parts infoRole
  have hlt := light ⟨1, ⟨ho, hn⟩, wh, ⟨ao, an⟩, ⟨bo, bn⟩, v⟩
  rw [hl] at hlt
  have HL := Lib.hid hlt
  have b0 := light_size hl
  simp only at b0
  have H9 := Lib.hid (right ⟨1, ⟨ho, hn⟩, wh, ⟨ao, an⟩, ⟨bo, bn⟩, v⟩ · hf)
  have H10 := Lib.hid (rightRef ⟨1, ⟨ho, hn⟩, wh, ⟨ao, an⟩, ⟨bo, bn⟩, v⟩ · hf)
  have H11 := Lib.hid (isRole' ao an · hf.2.2.1.1 hf.2.2.1.2)
  have H12 := Lib.hid (isRoleRef' ao an · hf.2.2.1.1 hf.2.2.1.2)
  have H13 := Lib.hid (print ⟨1, ⟨ho, hn⟩, wh, ⟨ao, an⟩, ⟨bo, bn⟩, v⟩ · hf)
  have H14 := Lib.hid (printRef ⟨1, ⟨ho, hn⟩, wh, ⟨ao, an⟩, ⟨bo, bn⟩, v⟩ · hf)
  have H15 := Lib.hid (normal ⟨1, ⟨ho, hn⟩, wh, ⟨ao, an⟩, ⟨bo, bn⟩, v⟩)
  have H16 := Lib.hid (normalRef ⟨1, ⟨ho, hn⟩, wh, ⟨ao, an⟩, ⟨bo, bn⟩, v⟩)
  have H18 := Lib.hid (roles ⟨1, ⟨ho, hn⟩, wh, ⟨ao, an⟩, ⟨bo, bn⟩, v⟩)
  have H19 := Lib.hid (printRole' ho hn · b0.1 b0.2)
  have H20 := Lib.hid (printRoleRef' ho hn · b0.1 b0.2)
  have hrl : rolesL ⟨1, ⟨ho, hn⟩, wh, ⟨ao, an⟩, ⟨bo, bn⟩, v⟩ = [⟨ho, hn⟩] := rfl
  have Hrl := Lib.hid hrl
  clear hrl
  have hq := eqV (St.normal ⟨1, ⟨ho, hn⟩, wh, ⟨ao, an⟩, ⟨bo, bn⟩, v⟩)
  generalize St.right ⟨1, ⟨ho, hn⟩, wh, ⟨ao, an⟩, ⟨bo, bn⟩, v⟩ = r9 at *
  generalize Rl.ok ⟨ao, an⟩ = r11 at *
  generalize line ⟨1, ⟨ho, hn⟩, wh, ⟨ao, an⟩, ⟨bo, bn⟩, v⟩ = ln at *
  obtain ⟨na, hna⟩ : ∃ na, (St.normal ⟨1, ⟨ho, hn⟩, wh, ⟨ao, an⟩, ⟨bo, bn⟩, v⟩).val = .agg na := ⟨_, rfl⟩
  rw [hna] at H15 H16
  simp only [hna] at hq
  clear hna
  unfold St.val at *
  clear hf hlt hl b0
  go_enter Try.func3, Try.ntmps3
  go_wp2_with fail
  refine (HL.out _).mono ?_
  rintro e w1 ⟨rfl, hg⟩
  have hb1 := hg.below
  have hbox1 : ∀ o, w1.cell? ⟨w.heap.size, o, none⟩ = (#[.int .i64 1, .string ho, .string hn, .string wh, .string ao, .string an, .string bo, .string bn, .string v] : Array Value)[o]? := fun o => (hb1.cell (p := ⟨w.heap.size, o, none⟩) (by show w.heap.size < _; simp)).trans (Lib.cell_of_heap (heap_alloc_new w _) o)
  have z1 := hb1.size
  simp only [World.size_alloc] at z1
  have z2 : w.heap.size < w1.heap.size := by omega
  have hbw1 : RowKit.Below w.heap.size w w1 := ((Below.refl _ _).alloc (Nat.le_refl _) _).trans (hb1.mono (by simp))
  clear hg hb1
  go_wp2_with fail
  have hbW : RowKit.Below w.heap.size w (w1.alloc (.cells #[.string ho, .string hn] 23)) := hbw1.alloc hbw1.size _
  have hbox : ∀ o, (w1.alloc (.cells #[.string ho, .string hn] 23)).cell? ⟨w.heap.size, o, none⟩ = (#[.int .i64 1, .string ho, .string hn, .string wh, .string ao, .string an, .string bo, .string bn, .string v] : Array Value)[o]? := fun o => (((Below.refl w1.heap.size w1).alloc (Nat.le_refl _) _).cell (p := ⟨w.heap.size, o, none⟩) z2).trans (hbox1 o)
  have hrat : RAt (w1.alloc (.cells #[.string ho, .string hn] 23)) (some ⟨w1.heap.size, 0, none⟩) [⟨ho, hn⟩] := rat_new w1 [⟨ho, hn⟩] 23
  have hzW : w.heap.size < (w1.alloc (.cells #[.string ho, .string hn] 23)).heap.size := by simp; omega
  have hst : RowKit.Below (w1.alloc (.cells #[.string ho, .string hn] 23)).heap.size (w1.alloc (.cells #[.string ho, .string hn] 23)) (w1.alloc (.cells #[.string ho, .string hn] 23)).drew ∧ (∀ o, (w1.alloc (.cells #[.string ho, .string hn] 23)).drew.cell? ⟨w.heap.size, o, none⟩ = (#[.int .i64 1, .string ho, .string hn, .string wh, .string ao, .string an, .string bo, .string bn, .string v] : Array Value)[o]?) := ⟨(Below.refl _ _).drew, hbox⟩
  have Hrt := Lib.hid (fun (w' : World) (hb : RowKit.Below (w1.alloc (.cells #[.string ho, .string hn] 23)).heap.size (w1.alloc (.cells #[.string ho, .string hn] 23)) w') => hrat.below hb)
  have HbW := Lib.hid hbW
  clear hbox1 hbw1 hbW hrat hbox z1
  go_region_held3 (fun w' => RowKit.Below (w1.alloc (.cells #[.string ho, .string hn] 23)).heap.size (w1.alloc (.cells #[.string ho, .string hn] 23)) w' ∧ (∀ o, w'.cell? ⟨w.heap.size, o, none⟩ = (#[.int .i64 1, .string ho, .string hn, .string wh, .string ao, .string an, .string bo, .string bn, .string v] : Array Value)[o]?))
    (first | with_reducible exact hst | with_reducible assumption | exact keepM (by with_reducible assumption) hzW (by with_reducible assumption))
    (first | (go_at_call 9; refine (H9.out _).mono ?_; rintro e w' ⟨rfl, hg⟩; have hgb := hg.below; clear hg) | (go_at_call 10; refine (H10.out _).mono ?_; rintro e w' ⟨rfl, hg⟩; have hgb := hg.below; clear hg) | (go_at_call 11; refine (H11.out _).mono ?_; rintro e w' ⟨rfl, hg⟩; have hgb := hg.below; clear hg) | (go_at_call 12; refine (H12.out _).mono ?_; rintro e w' ⟨rfl, hg⟩; have hgb := hg.below; clear hg) | (go_at_call 13; refine (H13.out _).mono ?_; rintro e w' ⟨rfl, hg⟩; have hgb := hg.below; clear hg) | (go_at_call 14; refine (H14.out _).mono ?_; rintro e w' ⟨rfl, hg⟩; have hgb := hg.below; clear hg) | (go_at_call 15; refine (H15.out _).mono ?_; rintro e w' ⟨rfl, hg⟩; have hgb := hg.below; clear hg) | (go_at_call 16; refine (H16.out _).mono ?_; rintro e w' ⟨rfl, hg⟩; have hgb := hg.below; clear hg) | (go_at_call 19; refine (H19.out _).mono ?_; rintro e w' ⟨rfl, hg⟩; have hgb := hg.below; clear hg) | (go_at_call 20; refine (H20.out _).mono ?_; rintro e w' ⟨rfl, hg⟩; have hgb := hg.below; clear hg) | (go_at_call 8; refine (lives _).mono ?_; rintro e w' ⟨rfl, hgb⟩) | (go_at_call 18; refine (H18.out _).mono ?_; rintro e w' ⟨A9, rfl, hra, hg⟩; have hgb := hg.below; rw [Hrl.out] at hra; rw [Hrl.out]; clear hg) | (go_at_call 17; refine (sameRoles _ _ _ _ [⟨ho, hn⟩] _ (by simp) hra (Hrt.out _ (by apply And.left; with_reducible assumption))).mono ?_; rintro e w' ⟨rfl, hgb⟩))
  rename_i hHeld
  go_wp2_with fail
  go_ret
  exact ⟨rfl, HbW.out.trans (hHeld.1.mono HbW.out.size)⟩
set_option maxHeartbeats 4000000 in
set_option maxRecDepth 100000 in
theorem right2 (ho hn wh ao an bo bn v : ByteArray) (w : World) (hf : St.fit ⟨2, ⟨ho, hn⟩, wh, ⟨ao, an⟩, ⟨bo, bn⟩, v⟩) (hl : lightS ⟨2, ⟨ho, hn⟩, wh, ⟨ao, an⟩, ⟨bo, bn⟩, v⟩ = true) :
    Calls Try.prog 3 #[.agg #[.int .i64 2, .string ho, .string hn, .string wh, .string ao, .string an, .string bo, .string bn, .string v]] w fun e w' => e = .returned (.bool true) ∧ RowKit.Below w.heap.size w w' := by
  obtain ⟨i0, hi, hz0, hz1, hz2⟩ := info_parts infoRole
  have hlt := light ⟨2, ⟨ho, hn⟩, wh, ⟨ao, an⟩, ⟨bo, bn⟩, v⟩
  rw [hl] at hlt
  have HL := Lib.hid hlt
  have b0 := light_size hl
  simp only at b0
  have H9 := Lib.hid (right ⟨2, ⟨ho, hn⟩, wh, ⟨ao, an⟩, ⟨bo, bn⟩, v⟩ · hf)
  have H10 := Lib.hid (rightRef ⟨2, ⟨ho, hn⟩, wh, ⟨ao, an⟩, ⟨bo, bn⟩, v⟩ · hf)
  have H11 := Lib.hid (isRole' ao an · hf.2.2.1.1 hf.2.2.1.2)
  have H12 := Lib.hid (isRoleRef' ao an · hf.2.2.1.1 hf.2.2.1.2)
  have H13 := Lib.hid (print ⟨2, ⟨ho, hn⟩, wh, ⟨ao, an⟩, ⟨bo, bn⟩, v⟩ · hf)
  have H14 := Lib.hid (printRef ⟨2, ⟨ho, hn⟩, wh, ⟨ao, an⟩, ⟨bo, bn⟩, v⟩ · hf)
  have H15 := Lib.hid (normal ⟨2, ⟨ho, hn⟩, wh, ⟨ao, an⟩, ⟨bo, bn⟩, v⟩)
  have H16 := Lib.hid (normalRef ⟨2, ⟨ho, hn⟩, wh, ⟨ao, an⟩, ⟨bo, bn⟩, v⟩)
  have H18 := Lib.hid (roles ⟨2, ⟨ho, hn⟩, wh, ⟨ao, an⟩, ⟨bo, bn⟩, v⟩)
  have H19 := Lib.hid (printRole' ho hn · b0.1 b0.2)
  have H20 := Lib.hid (printRoleRef' ho hn · b0.1 b0.2)
  have hrl : rolesL ⟨2, ⟨ho, hn⟩, wh, ⟨ao, an⟩, ⟨bo, bn⟩, v⟩ = [⟨ho, hn⟩, ⟨ao, an⟩] := rfl
  have Hrl := Lib.hid hrl
  clear hrl
  have hq := eqV (St.normal ⟨2, ⟨ho, hn⟩, wh, ⟨ao, an⟩, ⟨bo, bn⟩, v⟩)
  generalize St.right ⟨2, ⟨ho, hn⟩, wh, ⟨ao, an⟩, ⟨bo, bn⟩, v⟩ = r9 at *
  generalize Rl.ok ⟨ao, an⟩ = r11 at *
  generalize line ⟨2, ⟨ho, hn⟩, wh, ⟨ao, an⟩, ⟨bo, bn⟩, v⟩ = ln at *
  obtain ⟨na, hna⟩ : ∃ na, (St.normal ⟨2, ⟨ho, hn⟩, wh, ⟨ao, an⟩, ⟨bo, bn⟩, v⟩).val = .agg na := ⟨_, rfl⟩
  rw [hna] at H15 H16
  simp only [hna] at hq
  clear hna
  unfold St.val at *
  clear hf hlt hl b0
  go_enter Try.func3, Try.ntmps3
  go_wp2_with fail
  refine (HL.out _).mono ?_
  rintro e w1 ⟨rfl, hg⟩
  have hb1 := hg.below
  have hbox1 : ∀ o, w1.cell? ⟨w.heap.size, o, none⟩ = (#[.int .i64 2, .string ho, .string hn, .string wh, .string ao, .string an, .string bo, .string bn, .string v] : Array Value)[o]? := fun o => (hb1.cell (p := ⟨w.heap.size, o, none⟩) (by show w.heap.size < _; simp)).trans (Lib.cell_of_heap (heap_alloc_new w _) o)
  have z1 := hb1.size
  simp only [World.size_alloc] at z1
  have z2 : w.heap.size < w1.heap.size := by omega
  have hbw1 : RowKit.Below w.heap.size w w1 := ((Below.refl _ _).alloc (Nat.le_refl _) _).trans (hb1.mono (by simp))
  clear hg hb1
  have hown0 : (w1.alloc (.cells #[.string ho, .string hn] 23)).ownsRow w1.heap.size 23 2 (.slice (some ⟨w1.heap.size, 0, none⟩) 1 1) 1 [.string ho, .string hn] := own_first w1 _ _ 23
  go_wp2_with (at_builtin; refine wpList_append_own _ rfl _ _ 28 rfl w1.heap.size 23 i0 (.agg #[.string ⟨#[]⟩, .string ⟨#[]⟩]) 2 32 Try.underlying28 hi hz0 hz1 hz2 rfl (by decide) _ _ _ rfl (hown0.alloc _) ⟨w1.heap.size + 1, 0, none⟩ 1 1 [.string ao, .string an] rfl rfl ?c1 ?c2 ?c3 ?c4 ?c5 ?_)
  case c1 => exact new2 (w1.alloc (.cells #[.string ho, .string hn] 23)) _ _ _ (by simp)
  case c2 => intro u hu; simp at hu; rcases hu with rfl | rfl <;> rfl
  case c3 => unfold maxLen; decide
  case c4 => decide
  case c5 => simp; omega
  intro v2 w2 hown2 hgrow2 _
  have hb2 : RowKit.Below w1.heap.size w1 w2 := (((Below.refl w1.heap.size w1).alloc (Nat.le_refl _) _).alloc (by simp) _).grown hgrow2 (by simp; omega) (fun k hk => by have := (hown0.lt k hk).1; omega)
  obtain ⟨A2, cap2, rfl, hra2⟩ := rat_own (L := [⟨ho, hn⟩, ⟨ao, an⟩]) hown2
  have hbox2 : ∀ o, w2.cell? ⟨w.heap.size, o, none⟩ = (#[.int .i64 2, .string ho, .string hn, .string wh, .string ao, .string an, .string bo, .string bn, .string v] : Array Value)[o]? := fun o => (hb2.cell (p := ⟨w.heap.size, o, none⟩) z2).trans (hbox1 o)
  have z3 : w.heap.size < w2.heap.size := by have := hb2.size; omega
  clear hown0 hgrow2
  clear hown2
  go_wp2_with fail
  have hbW : RowKit.Below w.heap.size w w2 := hbw1.trans (hb2.mono hbw1.size)
  have hbox : ∀ o, w2.cell? ⟨w.heap.size, o, none⟩ = (#[.int .i64 2, .string ho, .string hn, .string wh, .string ao, .string an, .string bo, .string bn, .string v] : Array Value)[o]? := fun o => (hb2.cell (p := ⟨w.heap.size, o, none⟩) z2).trans (hbox1 o)
  have hrat : RAt w2 A2 [⟨ho, hn⟩, ⟨ao, an⟩] := hra2
  have hzW : w.heap.size < w2.heap.size := by have := hb2.size; omega
  clear hb2 hra2 hbox2
  have hst : RowKit.Below w2.heap.size w2 w2.drew ∧ (∀ o, w2.drew.cell? ⟨w.heap.size, o, none⟩ = (#[.int .i64 2, .string ho, .string hn, .string wh, .string ao, .string an, .string bo, .string bn, .string v] : Array Value)[o]?) := ⟨(Below.refl _ _).drew, hbox⟩
  have Hrt := Lib.hid (fun (w' : World) (hb : RowKit.Below w2.heap.size w2 w') => hrat.below hb)
  have HbW := Lib.hid hbW
  clear hbox1 hbw1 hbW hrat hbox z1
  go_region_held3 (fun w' => RowKit.Below w2.heap.size w2 w' ∧ (∀ o, w'.cell? ⟨w.heap.size, o, none⟩ = (#[.int .i64 2, .string ho, .string hn, .string wh, .string ao, .string an, .string bo, .string bn, .string v] : Array Value)[o]?))
    (first | with_reducible exact hst | with_reducible assumption | exact keepM (by with_reducible assumption) hzW (by with_reducible assumption))
    (first | (go_at_call 9; refine (H9.out _).mono ?_; rintro e w' ⟨rfl, hg⟩; have hgb := hg.below; clear hg) | (go_at_call 10; refine (H10.out _).mono ?_; rintro e w' ⟨rfl, hg⟩; have hgb := hg.below; clear hg) | (go_at_call 11; refine (H11.out _).mono ?_; rintro e w' ⟨rfl, hg⟩; have hgb := hg.below; clear hg) | (go_at_call 12; refine (H12.out _).mono ?_; rintro e w' ⟨rfl, hg⟩; have hgb := hg.below; clear hg) | (go_at_call 13; refine (H13.out _).mono ?_; rintro e w' ⟨rfl, hg⟩; have hgb := hg.below; clear hg) | (go_at_call 14; refine (H14.out _).mono ?_; rintro e w' ⟨rfl, hg⟩; have hgb := hg.below; clear hg) | (go_at_call 15; refine (H15.out _).mono ?_; rintro e w' ⟨rfl, hg⟩; have hgb := hg.below; clear hg) | (go_at_call 16; refine (H16.out _).mono ?_; rintro e w' ⟨rfl, hg⟩; have hgb := hg.below; clear hg) | (go_at_call 19; refine (H19.out _).mono ?_; rintro e w' ⟨rfl, hg⟩; have hgb := hg.below; clear hg) | (go_at_call 20; refine (H20.out _).mono ?_; rintro e w' ⟨rfl, hg⟩; have hgb := hg.below; clear hg) | (go_at_call 8; refine (lives _).mono ?_; rintro e w' ⟨rfl, hgb⟩) | (go_at_call 18; refine (H18.out _).mono ?_; rintro e w' ⟨A9, rfl, hra, hg⟩; have hgb := hg.below; rw [Hrl.out] at hra; rw [Hrl.out]; clear hg) | (go_at_call 17; refine (sameRoles _ _ _ _ [⟨ho, hn⟩, ⟨ao, an⟩] _ (by simp) hra (Hrt.out _ (by apply And.left; with_reducible assumption))).mono ?_; rintro e w' ⟨rfl, hgb⟩))
  rename_i hHeld
  go_wp2_with fail
  go_ret
  exact ⟨rfl, HbW.out.trans (hHeld.1.mono HbW.out.size)⟩
set_option maxHeartbeats 4000000 in
set_option maxRecDepth 100000 in
theorem right3 (ho hn wh ao an bo bn v : ByteArray) (w : World) (hf : St.fit ⟨3, ⟨ho, hn⟩, wh, ⟨ao, an⟩, ⟨bo, bn⟩, v⟩) (hl : lightS ⟨3, ⟨ho, hn⟩, wh, ⟨ao, an⟩, ⟨bo, bn⟩, v⟩ = true) :
    Calls Try.prog 3 #[.agg #[.int .i64 3, .string ho, .string hn, .string wh, .string ao, .string an, .string bo, .string bn, .string v]] w fun e w' => e = .returned (.bool true) ∧ RowKit.Below w.heap.size w w' := by
  obtain ⟨i0, hi, hz0, hz1, hz2⟩ := info_parts infoRole
  have hlt := light ⟨3, ⟨ho, hn⟩, wh, ⟨ao, an⟩, ⟨bo, bn⟩, v⟩
  rw [hl] at hlt
  have HL := Lib.hid hlt
  have b0 := light_size hl
  simp only at b0
  have H9 := Lib.hid (right ⟨3, ⟨ho, hn⟩, wh, ⟨ao, an⟩, ⟨bo, bn⟩, v⟩ · hf)
  have H10 := Lib.hid (rightRef ⟨3, ⟨ho, hn⟩, wh, ⟨ao, an⟩, ⟨bo, bn⟩, v⟩ · hf)
  have H11 := Lib.hid (isRole' ao an · hf.2.2.1.1 hf.2.2.1.2)
  have H12 := Lib.hid (isRoleRef' ao an · hf.2.2.1.1 hf.2.2.1.2)
  have H13 := Lib.hid (print ⟨3, ⟨ho, hn⟩, wh, ⟨ao, an⟩, ⟨bo, bn⟩, v⟩ · hf)
  have H14 := Lib.hid (printRef ⟨3, ⟨ho, hn⟩, wh, ⟨ao, an⟩, ⟨bo, bn⟩, v⟩ · hf)
  have H15 := Lib.hid (normal ⟨3, ⟨ho, hn⟩, wh, ⟨ao, an⟩, ⟨bo, bn⟩, v⟩)
  have H16 := Lib.hid (normalRef ⟨3, ⟨ho, hn⟩, wh, ⟨ao, an⟩, ⟨bo, bn⟩, v⟩)
  have H18 := Lib.hid (roles ⟨3, ⟨ho, hn⟩, wh, ⟨ao, an⟩, ⟨bo, bn⟩, v⟩)
  have H19 := Lib.hid (printRole' ho hn · b0.1 b0.2)
  have H20 := Lib.hid (printRoleRef' ho hn · b0.1 b0.2)
  have hrl : rolesL ⟨3, ⟨ho, hn⟩, wh, ⟨ao, an⟩, ⟨bo, bn⟩, v⟩ = [⟨ho, hn⟩, ⟨ao, an⟩] := rfl
  have Hrl := Lib.hid hrl
  clear hrl
  have hq := eqV (St.normal ⟨3, ⟨ho, hn⟩, wh, ⟨ao, an⟩, ⟨bo, bn⟩, v⟩)
  generalize St.right ⟨3, ⟨ho, hn⟩, wh, ⟨ao, an⟩, ⟨bo, bn⟩, v⟩ = r9 at *
  generalize Rl.ok ⟨ao, an⟩ = r11 at *
  generalize line ⟨3, ⟨ho, hn⟩, wh, ⟨ao, an⟩, ⟨bo, bn⟩, v⟩ = ln at *
  obtain ⟨na, hna⟩ : ∃ na, (St.normal ⟨3, ⟨ho, hn⟩, wh, ⟨ao, an⟩, ⟨bo, bn⟩, v⟩).val = .agg na := ⟨_, rfl⟩
  rw [hna] at H15 H16
  simp only [hna] at hq
  clear hna
  unfold St.val at *
  clear hf hlt hl b0
  go_enter Try.func3, Try.ntmps3
  go_wp2_with fail
  refine (HL.out _).mono ?_
  rintro e w1 ⟨rfl, hg⟩
  have hb1 := hg.below
  have hbox1 : ∀ o, w1.cell? ⟨w.heap.size, o, none⟩ = (#[.int .i64 3, .string ho, .string hn, .string wh, .string ao, .string an, .string bo, .string bn, .string v] : Array Value)[o]? := fun o => (hb1.cell (p := ⟨w.heap.size, o, none⟩) (by show w.heap.size < _; simp)).trans (Lib.cell_of_heap (heap_alloc_new w _) o)
  have z1 := hb1.size
  simp only [World.size_alloc] at z1
  have z2 : w.heap.size < w1.heap.size := by omega
  have hbw1 : RowKit.Below w.heap.size w w1 := ((Below.refl _ _).alloc (Nat.le_refl _) _).trans (hb1.mono (by simp))
  clear hg hb1
  have hown0 : (w1.alloc (.cells #[.string ho, .string hn] 23)).ownsRow w1.heap.size 23 2 (.slice (some ⟨w1.heap.size, 0, none⟩) 1 1) 1 [.string ho, .string hn] := own_first w1 _ _ 23
  go_wp2_with (at_builtin; refine wpList_append_own _ rfl _ _ 28 rfl w1.heap.size 23 i0 (.agg #[.string ⟨#[]⟩, .string ⟨#[]⟩]) 2 32 Try.underlying28 hi hz0 hz1 hz2 rfl (by decide) _ _ _ rfl (hown0.alloc _) ⟨w1.heap.size + 1, 0, none⟩ 1 1 [.string ao, .string an] rfl rfl ?c1 ?c2 ?c3 ?c4 ?c5 ?_)
  case c1 => exact new2 (w1.alloc (.cells #[.string ho, .string hn] 23)) _ _ _ (by simp)
  case c2 => intro u hu; simp at hu; rcases hu with rfl | rfl <;> rfl
  case c3 => unfold maxLen; decide
  case c4 => decide
  case c5 => simp; omega
  intro v2 w2 hown2 hgrow2 _
  have hb2 : RowKit.Below w1.heap.size w1 w2 := (((Below.refl w1.heap.size w1).alloc (Nat.le_refl _) _).alloc (by simp) _).grown hgrow2 (by simp; omega) (fun k hk => by have := (hown0.lt k hk).1; omega)
  obtain ⟨A2, cap2, rfl, hra2⟩ := rat_own (L := [⟨ho, hn⟩, ⟨ao, an⟩]) hown2
  have hbox2 : ∀ o, w2.cell? ⟨w.heap.size, o, none⟩ = (#[.int .i64 3, .string ho, .string hn, .string wh, .string ao, .string an, .string bo, .string bn, .string v] : Array Value)[o]? := fun o => (hb2.cell (p := ⟨w.heap.size, o, none⟩) z2).trans (hbox1 o)
  have z3 : w.heap.size < w2.heap.size := by have := hb2.size; omega
  clear hown0 hgrow2
  clear hown2
  go_wp2_with fail
  have hbW : RowKit.Below w.heap.size w w2 := hbw1.trans (hb2.mono hbw1.size)
  have hbox : ∀ o, w2.cell? ⟨w.heap.size, o, none⟩ = (#[.int .i64 3, .string ho, .string hn, .string wh, .string ao, .string an, .string bo, .string bn, .string v] : Array Value)[o]? := fun o => (hb2.cell (p := ⟨w.heap.size, o, none⟩) z2).trans (hbox1 o)
  have hrat : RAt w2 A2 [⟨ho, hn⟩, ⟨ao, an⟩] := hra2
  have hzW : w.heap.size < w2.heap.size := by have := hb2.size; omega
  clear hb2 hra2 hbox2
  have hst : RowKit.Below w2.heap.size w2 w2.drew ∧ (∀ o, w2.drew.cell? ⟨w.heap.size, o, none⟩ = (#[.int .i64 3, .string ho, .string hn, .string wh, .string ao, .string an, .string bo, .string bn, .string v] : Array Value)[o]?) := ⟨(Below.refl _ _).drew, hbox⟩
  have Hrt := Lib.hid (fun (w' : World) (hb : RowKit.Below w2.heap.size w2 w') => hrat.below hb)
  have HbW := Lib.hid hbW
  clear hbox1 hbw1 hbW hrat hbox z1
  go_region_held3 (fun w' => RowKit.Below w2.heap.size w2 w' ∧ (∀ o, w'.cell? ⟨w.heap.size, o, none⟩ = (#[.int .i64 3, .string ho, .string hn, .string wh, .string ao, .string an, .string bo, .string bn, .string v] : Array Value)[o]?))
    (first | with_reducible exact hst | with_reducible assumption | exact keepM (by with_reducible assumption) hzW (by with_reducible assumption))
    (first | (go_at_call 9; refine (H9.out _).mono ?_; rintro e w' ⟨rfl, hg⟩; have hgb := hg.below; clear hg) | (go_at_call 10; refine (H10.out _).mono ?_; rintro e w' ⟨rfl, hg⟩; have hgb := hg.below; clear hg) | (go_at_call 11; refine (H11.out _).mono ?_; rintro e w' ⟨rfl, hg⟩; have hgb := hg.below; clear hg) | (go_at_call 12; refine (H12.out _).mono ?_; rintro e w' ⟨rfl, hg⟩; have hgb := hg.below; clear hg) | (go_at_call 13; refine (H13.out _).mono ?_; rintro e w' ⟨rfl, hg⟩; have hgb := hg.below; clear hg) | (go_at_call 14; refine (H14.out _).mono ?_; rintro e w' ⟨rfl, hg⟩; have hgb := hg.below; clear hg) | (go_at_call 15; refine (H15.out _).mono ?_; rintro e w' ⟨rfl, hg⟩; have hgb := hg.below; clear hg) | (go_at_call 16; refine (H16.out _).mono ?_; rintro e w' ⟨rfl, hg⟩; have hgb := hg.below; clear hg) | (go_at_call 19; refine (H19.out _).mono ?_; rintro e w' ⟨rfl, hg⟩; have hgb := hg.below; clear hg) | (go_at_call 20; refine (H20.out _).mono ?_; rintro e w' ⟨rfl, hg⟩; have hgb := hg.below; clear hg) | (go_at_call 8; refine (lives _).mono ?_; rintro e w' ⟨rfl, hgb⟩) | (go_at_call 18; refine (H18.out _).mono ?_; rintro e w' ⟨A9, rfl, hra, hg⟩; have hgb := hg.below; rw [Hrl.out] at hra; rw [Hrl.out]; clear hg) | (go_at_call 17; refine (sameRoles _ _ _ _ [⟨ho, hn⟩, ⟨ao, an⟩] _ (by simp) hra (Hrt.out _ (by apply And.left; with_reducible assumption))).mono ?_; rintro e w' ⟨rfl, hgb⟩))
  rename_i hHeld
  go_wp2_with fail
  go_ret
  exact ⟨rfl, HbW.out.trans (hHeld.1.mono HbW.out.size)⟩
set_option maxHeartbeats 4000000 in
set_option maxRecDepth 100000 in
theorem right4 (ho hn wh ao an bo bn v : ByteArray) (w : World) (hf : St.fit ⟨4, ⟨ho, hn⟩, wh, ⟨ao, an⟩, ⟨bo, bn⟩, v⟩) (hl : lightS ⟨4, ⟨ho, hn⟩, wh, ⟨ao, an⟩, ⟨bo, bn⟩, v⟩ = true) :
    Calls Try.prog 3 #[.agg #[.int .i64 4, .string ho, .string hn, .string wh, .string ao, .string an, .string bo, .string bn, .string v]] w fun e w' => e = .returned (.bool true) ∧ RowKit.Below w.heap.size w w' := by
  obtain ⟨i0, hi, hz0, hz1, hz2⟩ := info_parts infoRole
  have hlt := light ⟨4, ⟨ho, hn⟩, wh, ⟨ao, an⟩, ⟨bo, bn⟩, v⟩
  rw [hl] at hlt
  have HL := Lib.hid hlt
  have b0 := light_size hl
  simp only at b0
  have H9 := Lib.hid (right ⟨4, ⟨ho, hn⟩, wh, ⟨ao, an⟩, ⟨bo, bn⟩, v⟩ · hf)
  have H10 := Lib.hid (rightRef ⟨4, ⟨ho, hn⟩, wh, ⟨ao, an⟩, ⟨bo, bn⟩, v⟩ · hf)
  have H11 := Lib.hid (isRole' ao an · hf.2.2.1.1 hf.2.2.1.2)
  have H12 := Lib.hid (isRoleRef' ao an · hf.2.2.1.1 hf.2.2.1.2)
  have H13 := Lib.hid (print ⟨4, ⟨ho, hn⟩, wh, ⟨ao, an⟩, ⟨bo, bn⟩, v⟩ · hf)
  have H14 := Lib.hid (printRef ⟨4, ⟨ho, hn⟩, wh, ⟨ao, an⟩, ⟨bo, bn⟩, v⟩ · hf)
  have H15 := Lib.hid (normal ⟨4, ⟨ho, hn⟩, wh, ⟨ao, an⟩, ⟨bo, bn⟩, v⟩)
  have H16 := Lib.hid (normalRef ⟨4, ⟨ho, hn⟩, wh, ⟨ao, an⟩, ⟨bo, bn⟩, v⟩)
  have H18 := Lib.hid (roles ⟨4, ⟨ho, hn⟩, wh, ⟨ao, an⟩, ⟨bo, bn⟩, v⟩)
  have H19 := Lib.hid (printRole' ho hn · b0.1 b0.2)
  have H20 := Lib.hid (printRoleRef' ho hn · b0.1 b0.2)
  have hrl : rolesL ⟨4, ⟨ho, hn⟩, wh, ⟨ao, an⟩, ⟨bo, bn⟩, v⟩ = [⟨ho, hn⟩, ⟨ao, an⟩, ⟨bo, bn⟩] := rfl
  have Hrl := Lib.hid hrl
  clear hrl
  have hq := eqV (St.normal ⟨4, ⟨ho, hn⟩, wh, ⟨ao, an⟩, ⟨bo, bn⟩, v⟩)
  generalize St.right ⟨4, ⟨ho, hn⟩, wh, ⟨ao, an⟩, ⟨bo, bn⟩, v⟩ = r9 at *
  generalize Rl.ok ⟨ao, an⟩ = r11 at *
  generalize line ⟨4, ⟨ho, hn⟩, wh, ⟨ao, an⟩, ⟨bo, bn⟩, v⟩ = ln at *
  obtain ⟨na, hna⟩ : ∃ na, (St.normal ⟨4, ⟨ho, hn⟩, wh, ⟨ao, an⟩, ⟨bo, bn⟩, v⟩).val = .agg na := ⟨_, rfl⟩
  rw [hna] at H15 H16
  simp only [hna] at hq
  clear hna
  unfold St.val at *
  clear hf hlt hl b0
  go_enter Try.func3, Try.ntmps3
  go_wp2_with fail
  refine (HL.out _).mono ?_
  rintro e w1 ⟨rfl, hg⟩
  have hb1 := hg.below
  have hbox1 : ∀ o, w1.cell? ⟨w.heap.size, o, none⟩ = (#[.int .i64 4, .string ho, .string hn, .string wh, .string ao, .string an, .string bo, .string bn, .string v] : Array Value)[o]? := fun o => (hb1.cell (p := ⟨w.heap.size, o, none⟩) (by show w.heap.size < _; simp)).trans (Lib.cell_of_heap (heap_alloc_new w _) o)
  have z1 := hb1.size
  simp only [World.size_alloc] at z1
  have z2 : w.heap.size < w1.heap.size := by omega
  have hbw1 : RowKit.Below w.heap.size w w1 := ((Below.refl _ _).alloc (Nat.le_refl _) _).trans (hb1.mono (by simp))
  clear hg hb1
  have hown0 : (w1.alloc (.cells #[.string ho, .string hn] 23)).ownsRow w1.heap.size 23 2 (.slice (some ⟨w1.heap.size, 0, none⟩) 1 1) 1 [.string ho, .string hn] := own_first w1 _ _ 23
  go_wp2_with (at_builtin; refine wpList_append_own _ rfl _ _ 28 rfl w1.heap.size 23 i0 (.agg #[.string ⟨#[]⟩, .string ⟨#[]⟩]) 2 32 Try.underlying28 hi hz0 hz1 hz2 rfl (by decide) _ _ _ rfl (hown0.alloc _) ⟨w1.heap.size + 1, 0, none⟩ 1 1 [.string ao, .string an] rfl rfl ?c1 ?c2 ?c3 ?c4 ?c5 ?_)
  case c1 => exact new2 (w1.alloc (.cells #[.string ho, .string hn] 23)) _ _ _ (by simp)
  case c2 => intro u hu; simp at hu; rcases hu with rfl | rfl <;> rfl
  case c3 => unfold maxLen; decide
  case c4 => decide
  case c5 => simp; omega
  intro v2 w2 hown2 hgrow2 _
  have hb2 : RowKit.Below w1.heap.size w1 w2 := (((Below.refl w1.heap.size w1).alloc (Nat.le_refl _) _).alloc (by simp) _).grown hgrow2 (by simp; omega) (fun k hk => by have := (hown0.lt k hk).1; omega)
  obtain ⟨A2, cap2, rfl, hra2⟩ := rat_own (L := [⟨ho, hn⟩, ⟨ao, an⟩]) hown2
  have hbox2 : ∀ o, w2.cell? ⟨w.heap.size, o, none⟩ = (#[.int .i64 4, .string ho, .string hn, .string wh, .string ao, .string an, .string bo, .string bn, .string v] : Array Value)[o]? := fun o => (hb2.cell (p := ⟨w.heap.size, o, none⟩) z2).trans (hbox1 o)
  have z3 : w.heap.size < w2.heap.size := by have := hb2.size; omega
  clear hown0 hgrow2
  go_wp2_with (at_builtin; refine wpList_append_own _ rfl _ _ 28 rfl w1.heap.size 23 i0 (.agg #[.string ⟨#[]⟩, .string ⟨#[]⟩]) 2 32 Try.underlying28 hi hz0 hz1 hz2 rfl (by decide) _ _ _ rfl (hown2.alloc _) ⟨w2.heap.size, 0, none⟩ 1 1 [.string bo, .string bn] rfl rfl ?c1 ?c2 ?c3 ?c4 ?c5 ?_)
  case c1 => exact new2 w2 _ _ _ rfl
  case c2 => intro u hu; simp at hu; rcases hu with rfl | rfl <;> rfl
  case c3 => unfold maxLen; decide
  case c4 => decide
  case c5 => have := hb2.size; simp; omega
  intro v3 w3 hown3 hgrow3 _
  have hb3 : RowKit.Below w1.heap.size w1 w3 := (hb2.alloc hb2.size _).grown hgrow3 (by have := hb2.size; simp; omega) (fun k hk => (hown2.lt k hk).1)
  obtain ⟨A3, cap3, rfl, hra3⟩ := rat_own (L := [⟨ho, hn⟩, ⟨ao, an⟩, ⟨bo, bn⟩]) hown3
  have hbox3 : ∀ o, w3.cell? ⟨w.heap.size, o, none⟩ = (#[.int .i64 4, .string ho, .string hn, .string wh, .string ao, .string an, .string bo, .string bn, .string v] : Array Value)[o]? := fun o => (hb3.cell (p := ⟨w.heap.size, o, none⟩) z2).trans (hbox1 o)
  have z4 : w.heap.size < w3.heap.size := by have := hb3.size; omega
  clear hown2 hgrow3 hown3 hb2 hra2 hbox2
  go_wp2_with fail
  have hbW : RowKit.Below w.heap.size w w3 := hbw1.trans (hb3.mono hbw1.size)
  have hbox : ∀ o, w3.cell? ⟨w.heap.size, o, none⟩ = (#[.int .i64 4, .string ho, .string hn, .string wh, .string ao, .string an, .string bo, .string bn, .string v] : Array Value)[o]? := fun o => (hb3.cell (p := ⟨w.heap.size, o, none⟩) z2).trans (hbox1 o)
  have hrat : RAt w3 A3 [⟨ho, hn⟩, ⟨ao, an⟩, ⟨bo, bn⟩] := hra3
  have hzW : w.heap.size < w3.heap.size := by have := hb3.size; omega
  clear hb3 hra3 hbox3
  have hst : RowKit.Below w3.heap.size w3 w3.drew ∧ (∀ o, w3.drew.cell? ⟨w.heap.size, o, none⟩ = (#[.int .i64 4, .string ho, .string hn, .string wh, .string ao, .string an, .string bo, .string bn, .string v] : Array Value)[o]?) := ⟨(Below.refl _ _).drew, hbox⟩
  have Hrt := Lib.hid (fun (w' : World) (hb : RowKit.Below w3.heap.size w3 w') => hrat.below hb)
  have HbW := Lib.hid hbW
  clear hbox1 hbw1 hbW hrat hbox z1
  go_region_held3 (fun w' => RowKit.Below w3.heap.size w3 w' ∧ (∀ o, w'.cell? ⟨w.heap.size, o, none⟩ = (#[.int .i64 4, .string ho, .string hn, .string wh, .string ao, .string an, .string bo, .string bn, .string v] : Array Value)[o]?))
    (first | with_reducible exact hst | with_reducible assumption | exact keepM (by with_reducible assumption) hzW (by with_reducible assumption))
    (first | (go_at_call 9; refine (H9.out _).mono ?_; rintro e w' ⟨rfl, hg⟩; have hgb := hg.below; clear hg) | (go_at_call 10; refine (H10.out _).mono ?_; rintro e w' ⟨rfl, hg⟩; have hgb := hg.below; clear hg) | (go_at_call 11; refine (H11.out _).mono ?_; rintro e w' ⟨rfl, hg⟩; have hgb := hg.below; clear hg) | (go_at_call 12; refine (H12.out _).mono ?_; rintro e w' ⟨rfl, hg⟩; have hgb := hg.below; clear hg) | (go_at_call 13; refine (H13.out _).mono ?_; rintro e w' ⟨rfl, hg⟩; have hgb := hg.below; clear hg) | (go_at_call 14; refine (H14.out _).mono ?_; rintro e w' ⟨rfl, hg⟩; have hgb := hg.below; clear hg) | (go_at_call 15; refine (H15.out _).mono ?_; rintro e w' ⟨rfl, hg⟩; have hgb := hg.below; clear hg) | (go_at_call 16; refine (H16.out _).mono ?_; rintro e w' ⟨rfl, hg⟩; have hgb := hg.below; clear hg) | (go_at_call 19; refine (H19.out _).mono ?_; rintro e w' ⟨rfl, hg⟩; have hgb := hg.below; clear hg) | (go_at_call 20; refine (H20.out _).mono ?_; rintro e w' ⟨rfl, hg⟩; have hgb := hg.below; clear hg) | (go_at_call 8; refine (lives _).mono ?_; rintro e w' ⟨rfl, hgb⟩) | (go_at_call 18; refine (H18.out _).mono ?_; rintro e w' ⟨A9, rfl, hra, hg⟩; have hgb := hg.below; rw [Hrl.out] at hra; rw [Hrl.out]; clear hg) | (go_at_call 17; refine (sameRoles _ _ _ _ [⟨ho, hn⟩, ⟨ao, an⟩, ⟨bo, bn⟩] _ (by simp) hra (Hrt.out _ (by apply And.left; with_reducible assumption))).mono ?_; rintro e w' ⟨rfl, hgb⟩))
  rename_i hHeld
  go_wp2_with fail
  go_ret
  exact ⟨rfl, HbW.out.trans (hHeld.1.mono HbW.out.size)⟩
set_option maxHeartbeats 4000000 in
set_option maxRecDepth 100000 in
theorem right5 (k1 : Int) (ho hn wh ao an bo bn v : ByteArray) (w : World) (hf : St.fit ⟨k1, ⟨ho, hn⟩, wh, ⟨ao, an⟩, ⟨bo, bn⟩, v⟩) (hl : lightS ⟨k1, ⟨ho, hn⟩, wh, ⟨ao, an⟩, ⟨bo, bn⟩, v⟩ = true) (hlo : k1 < 1 ∨ 4 < k1) :
    Calls Try.prog 3 #[.agg #[.int .i64 k1, .string ho, .string hn, .string wh, .string ao, .string an, .string bo, .string bn, .string v]] w fun e w' => e = .returned (.bool true) ∧ RowKit.Below w.heap.size w w' := by
  obtain ⟨i0, hi, hz0, hz1, hz2⟩ := info_parts infoRole
  have hlt := light ⟨k1, ⟨ho, hn⟩, wh, ⟨ao, an⟩, ⟨bo, bn⟩, v⟩
  rw [hl] at hlt
  have HL := Lib.hid hlt
  have b0 := light_size hl
  simp only at b0
  have H9 := Lib.hid (right ⟨k1, ⟨ho, hn⟩, wh, ⟨ao, an⟩, ⟨bo, bn⟩, v⟩ · hf)
  have H10 := Lib.hid (rightRef ⟨k1, ⟨ho, hn⟩, wh, ⟨ao, an⟩, ⟨bo, bn⟩, v⟩ · hf)
  have H11 := Lib.hid (isRole' ao an · hf.2.2.1.1 hf.2.2.1.2)
  have H12 := Lib.hid (isRoleRef' ao an · hf.2.2.1.1 hf.2.2.1.2)
  have H13 := Lib.hid (print ⟨k1, ⟨ho, hn⟩, wh, ⟨ao, an⟩, ⟨bo, bn⟩, v⟩ · hf)
  have H14 := Lib.hid (printRef ⟨k1, ⟨ho, hn⟩, wh, ⟨ao, an⟩, ⟨bo, bn⟩, v⟩ · hf)
  have H15 := Lib.hid (normal ⟨k1, ⟨ho, hn⟩, wh, ⟨ao, an⟩, ⟨bo, bn⟩, v⟩)
  have H16 := Lib.hid (normalRef ⟨k1, ⟨ho, hn⟩, wh, ⟨ao, an⟩, ⟨bo, bn⟩, v⟩)
  have H18 := Lib.hid (roles ⟨k1, ⟨ho, hn⟩, wh, ⟨ao, an⟩, ⟨bo, bn⟩, v⟩)
  have H19 := Lib.hid (printRole' ho hn · b0.1 b0.2)
  have H20 := Lib.hid (printRoleRef' ho hn · b0.1 b0.2)
  have hrl : rolesL ⟨k1, ⟨ho, hn⟩, wh, ⟨ao, an⟩, ⟨bo, bn⟩, v⟩ = [⟨ho, hn⟩] := by unfold rolesL; rw [if_neg (show ¬ (k1 = 2 ∨ k1 = 3) by omega), if_neg (show ¬ k1 = 4 by omega)]
  have Hrl := Lib.hid hrl
  clear hrl
  have hq := eqV (St.normal ⟨k1, ⟨ho, hn⟩, wh, ⟨ao, an⟩, ⟨bo, bn⟩, v⟩)
  have e4 : (k1 == 4) = false := by simp; omega
  have hd : decide (2 ≤ k1) = false ∨ (decide (2 ≤ k1) = true ∧ decide (k1 ≤ 4) = false) := by
    rcases hlo with h | h
    · exact .inl (decide_eq_false (by omega))
    · exact .inr ⟨decide_eq_true (by omega), decide_eq_false (by omega)⟩
  clear hlo
  generalize St.right ⟨k1, ⟨ho, hn⟩, wh, ⟨ao, an⟩, ⟨bo, bn⟩, v⟩ = r9 at *
  generalize Rl.ok ⟨ao, an⟩ = r11 at *
  generalize line ⟨k1, ⟨ho, hn⟩, wh, ⟨ao, an⟩, ⟨bo, bn⟩, v⟩ = ln at *
  obtain ⟨na, hna⟩ : ∃ na, (St.normal ⟨k1, ⟨ho, hn⟩, wh, ⟨ao, an⟩, ⟨bo, bn⟩, v⟩).val = .agg na := ⟨_, rfl⟩
  rw [hna] at H15 H16
  simp only [hna] at hq
  clear hna
  unfold St.val at *
  clear hf hlt hl b0
  rcases hd with hd1 | ⟨hd1, hd2⟩
  all_goals
    go_enter Try.func3, Try.ntmps3
    go_wp2_with fail
    refine (HL.out _).mono ?_
    rintro e w1 ⟨rfl, hg⟩
    have hb1 := hg.below
    have hbox1 : ∀ o, w1.cell? ⟨w.heap.size, o, none⟩ = (#[.int .i64 k1, .string ho, .string hn, .string wh, .string ao, .string an, .string bo, .string bn, .string v] : Array Value)[o]? := fun o => (hb1.cell (p := ⟨w.heap.size, o, none⟩) (by show w.heap.size < _; simp)).trans (Lib.cell_of_heap (heap_alloc_new w _) o)
    have z1 := hb1.size
    simp only [World.size_alloc] at z1
    have z2 : w.heap.size < w1.heap.size := by omega
    have hbw1 : RowKit.Below w.heap.size w w1 := ((Below.refl _ _).alloc (Nat.le_refl _) _).trans (hb1.mono (by simp))
    clear hg hb1
    go_wp2_with fail
    have hbW : RowKit.Below w.heap.size w (w1.alloc (.cells #[.string ho, .string hn] 23)) := hbw1.alloc hbw1.size _
    have hbox : ∀ o, (w1.alloc (.cells #[.string ho, .string hn] 23)).cell? ⟨w.heap.size, o, none⟩ = (#[.int .i64 k1, .string ho, .string hn, .string wh, .string ao, .string an, .string bo, .string bn, .string v] : Array Value)[o]? := fun o => (((Below.refl w1.heap.size w1).alloc (Nat.le_refl _) _).cell (p := ⟨w.heap.size, o, none⟩) z2).trans (hbox1 o)
    have hrat : RAt (w1.alloc (.cells #[.string ho, .string hn] 23)) (some ⟨w1.heap.size, 0, none⟩) [⟨ho, hn⟩] := rat_new w1 [⟨ho, hn⟩] 23
    have hzW : w.heap.size < (w1.alloc (.cells #[.string ho, .string hn] 23)).heap.size := by simp; omega
    have hst : RowKit.Below (w1.alloc (.cells #[.string ho, .string hn] 23)).heap.size (w1.alloc (.cells #[.string ho, .string hn] 23)) (w1.alloc (.cells #[.string ho, .string hn] 23)).drew ∧ (∀ o, (w1.alloc (.cells #[.string ho, .string hn] 23)).drew.cell? ⟨w.heap.size, o, none⟩ = (#[.int .i64 k1, .string ho, .string hn, .string wh, .string ao, .string an, .string bo, .string bn, .string v] : Array Value)[o]?) := ⟨(Below.refl _ _).drew, hbox⟩
    have Hrt := Lib.hid (fun (w' : World) (hb : RowKit.Below (w1.alloc (.cells #[.string ho, .string hn] 23)).heap.size (w1.alloc (.cells #[.string ho, .string hn] 23)) w') => hrat.below hb)
    have HbW := Lib.hid hbW
    clear hbox1 hbw1 hbW hrat hbox z1
    go_region_held3 (fun w' => RowKit.Below (w1.alloc (.cells #[.string ho, .string hn] 23)).heap.size (w1.alloc (.cells #[.string ho, .string hn] 23)) w' ∧ (∀ o, w'.cell? ⟨w.heap.size, o, none⟩ = (#[.int .i64 k1, .string ho, .string hn, .string wh, .string ao, .string an, .string bo, .string bn, .string v] : Array Value)[o]?))
      (first | with_reducible exact hst | with_reducible assumption | exact keepM (by with_reducible assumption) hzW (by with_reducible assumption))
      (first | (go_at_call 9; refine (H9.out _).mono ?_; rintro e w' ⟨rfl, hg⟩; have hgb := hg.below; clear hg) | (go_at_call 10; refine (H10.out _).mono ?_; rintro e w' ⟨rfl, hg⟩; have hgb := hg.below; clear hg) | (go_at_call 11; refine (H11.out _).mono ?_; rintro e w' ⟨rfl, hg⟩; have hgb := hg.below; clear hg) | (go_at_call 12; refine (H12.out _).mono ?_; rintro e w' ⟨rfl, hg⟩; have hgb := hg.below; clear hg) | (go_at_call 13; refine (H13.out _).mono ?_; rintro e w' ⟨rfl, hg⟩; have hgb := hg.below; clear hg) | (go_at_call 14; refine (H14.out _).mono ?_; rintro e w' ⟨rfl, hg⟩; have hgb := hg.below; clear hg) | (go_at_call 15; refine (H15.out _).mono ?_; rintro e w' ⟨rfl, hg⟩; have hgb := hg.below; clear hg) | (go_at_call 16; refine (H16.out _).mono ?_; rintro e w' ⟨rfl, hg⟩; have hgb := hg.below; clear hg) | (go_at_call 19; refine (H19.out _).mono ?_; rintro e w' ⟨rfl, hg⟩; have hgb := hg.below; clear hg) | (go_at_call 20; refine (H20.out _).mono ?_; rintro e w' ⟨rfl, hg⟩; have hgb := hg.below; clear hg) | (go_at_call 8; refine (lives _).mono ?_; rintro e w' ⟨rfl, hgb⟩) | (go_at_call 18; refine (H18.out _).mono ?_; rintro e w' ⟨A9, rfl, hra, hg⟩; have hgb := hg.below; rw [Hrl.out] at hra; rw [Hrl.out]; clear hg) | (go_at_call 17; refine (sameRoles _ _ _ _ [⟨ho, hn⟩] _ (by simp) hra (Hrt.out _ (by apply And.left; with_reducible assumption))).mono ?_; rintro e w' ⟨rfl, hgb⟩))
    rename_i hHeld
    go_wp2_with fail
    go_ret
    exact ⟨rfl, HbW.out.trans (hHeld.1.mono HbW.out.size)⟩
end Go.Proofs.Ythhofldmieoneaa.SynI
