/- Tables: a table that there isn't has nothing, by contract. -/
import Derived.Test.YtnhjnimgjpgfcaaTblQ
import Derived.Deep.RegionHeld3
namespace Go.Proofs.Ytnhjnimgjpgfcaa.TblS
open Go.RowKit Go.Sort Go.Lib Go.Proofs Go.Proofs.Ytnhjnimgjpgfcaa.Plain Go.Proofs.Ytnhjnimgjpgfcaa.SynP Go.Proofs.Ytnhjnimgjpgfcaa.SynE Go.Proofs.Ytnhjnimgjpgfcaa.Grown Go.Proofs.Ytnhjnimgjpgfcaa.TabP Go.Proofs.Ytnhjnimgjpgfcaa.Tab1 Go.Proofs.Ytnhjnimgjpgfcaa.Tab2 Go.Proofs.Ytnhjnimgjpgfcaa.RolK Go.Proofs.Ytnhjnimgjpgfcaa.TblA Go.Proofs.Ytnhjnimgjpgfcaa.TblB Go.Proofs.Ytnhjnimgjpgfcaa.TblC Go.Proofs.Ytnhjnimgjpgfcaa.TblF Go.Proofs.Ytnhjnimgjpgfcaa.TblI Go.Proofs.Ytnhjnimgjpgfcaa.TblQ
set_option linter.unusedVariables false
set_option linter.unusedSimpArgs false
/-- A table with no texts. -/
def Em (w : World) (p : Value) : Prop := ∃ t A c, p = .pointer (some ⟨t, 0, none⟩) ∧ w.cell? ⟨t, 0, none⟩ = some (.slice A 0 c) ∧ t < w.heap.size
def EmPost (w : World) (e : Ending) (w' : World) : Prop := ∃ p, e = .returned p ∧ Em w' p ∧ RowKit.Below w.heap.size w w'
theorem new0 (w : World) : Calls Try.prog 33 #[.slice none 0 0] w (EmPost w) := by
  refine (Tab1.new_nil 0 0 w).mono ?_
  rintro e w' ⟨p, rfl, ⟨t, v, rfl, _, hh, hown⟩, hb⟩
  rw [tab_nil] at hown
  obtain ⟨A, c, rfl, _, _⟩ := SRow.of_own hown
  refine ⟨_, rfl, ⟨t, A, c, rfl, ?_, (Array.getElem?_eq_some_iff.1 hh).1⟩, hb⟩
  rw [Lib.cell_of_heap hh]; rfl
theorem prins0 (w : World) : Calls Try.prog 16 #[.pointer none] w (EmPost w) := by
  have H := Lib.hid (new0 w)
  go_enter Try.func16, Try.ntmps16
  go_wp2_with fail
  refine H.out.mono ?_
  rintro e w1 ⟨p, rfl, he, hb⟩
  have HE := Lib.hid he
  have HB := Lib.hid hb
  clear he hb H
  go_wp2_with fail
  go_ret
  exact ⟨_, rfl, HE.out, HB.out⟩
theorem links0 (w : World) : Calls Try.prog 18 #[.pointer none] w (EmPost w) := by
  have H := Lib.hid (new0 w)
  go_enter Try.func18, Try.ntmps18
  go_wp2_with fail
  refine H.out.mono ?_
  rintro e w1 ⟨p, rfl, he, hb⟩
  have HE := Lib.hid he
  have HB := Lib.hid hb
  clear he hb H
  go_wp2_with fail
  go_ret
  exact ⟨_, rfl, HE.out, HB.out⟩
theorem lenE {w : World} {p : Value} (h : Em w p) : Calls Try.prog 17 #[p] w fun e w' => e = .returned (.int .i64 0) ∧ w = w' := by
  obtain ⟨t, A, c, rfl, hc, _⟩ := h
  exact Tab1.len w t A 0 c hc
theorem findE {w : World} {p : Value} (h : Em w p) (s : ByteArray) : Calls Try.prog 39 #[p, .string s] w fun e w' => e = .returned (.int .i64 (-1)) ∧ RowKit.Below w.heap.size w w' := by
  obtain ⟨t, A, c, rfl, hc, ht⟩ := h
  have := Tab2.find t [] A c s w (by simp) List.Pairwise.nil (fun hp => by simp at hp) ht hc
  unfold FindPost at this
  rw [findI_miss (by simp)] at this
  exact this
set_option maxRecDepth 100000 in
theorem roles0 (w : World) : Calls Try.prog 15 #[.pointer none] w fun e w' => e = .returned (.int .i64 0) ∧ RowKit.Below w.heap.size w w' := by
  go_enter Try.func15, Try.ntmps15
  go_wp2_with fail
  refine (prins0 _).mono ?_
  rintro e w1 ⟨p, rfl, he, hb⟩
  have HB1 := Lib.hid hb
  clear hb
  go_wp2_with fail
  refine (lenE he).mono ?_
  rintro e w2 ⟨rfl, rfl⟩
  clear he
  go_wp2_with fail
  refine (links0 _).mono ?_
  rintro e w2 ⟨p2, rfl, he, hb⟩
  have HB2 := Lib.hid (nx HB1.out hb)
  clear hb
  go_wp2_with fail
  refine (lenE he).mono ?_
  rintro e w3 ⟨rfl, rfl⟩
  clear he
  go_wp2_with fail
  go_ret
  exact ⟨rfl, HB2.out⟩
set_option maxRecDepth 100000 in
theorem role0 (r : Rl) (w : World) : Calls Try.prog 13 #[.pointer none, r.val] w fun e w' => e = .returned (.int .i64 (-1)) ∧ RowKit.Below w.heap.size w w' := by
  obtain ⟨ro, rn⟩ := r
  unfold Rl.val
  simp only
  have hX := (Below.refl w.heap.size w).alloc (Nat.le_refl _) (.cells #[.string ro, .string rn] 24)
  have hY := heap_alloc_new w (.cells #[.string ro, .string rn] 24)
  go_enter Try.func13, Try.ntmps13
  go_upto_region 1 with fail
  generalize w.alloc (.cells #[.string ro, .string rn] 24) = w6 at *
  have hlt := (Array.getElem?_eq_some_iff.1 hY).1
  have HX := Lib.hid hX
  have HS : Hid (∀ w', RowKit.Below w6.heap.size w6 w' → RowKit.Below w6.heap.size w6 w' ∧ (∀ o, w'.cell? ⟨w.heap.size, o, none⟩ = (#[.string ro, .string rn] : Array Value)[o]?)) := Lib.hid (fun w' hb => ⟨hb, fun o => Lib.cell_of_heap ((hb.block _ hlt).trans hY) o⟩)
  clear hX hY
  go_region_held3 (fun w' => RowKit.Below w6.heap.size w6 w' ∧ (∀ o, w'.cell? ⟨w.heap.size, o, none⟩ = (#[.string ro, .string rn] : Array Value)[o]?))
    (first | with_reducible assumption | exact HS.out _ ((Below.refl _ _).drew) | exact HS.out _ (nx (by apply And.left; with_reducible assumption) (by with_reducible assumption)))
    (first | (go_at_call 16; refine (prins0 _).mono ?_; rintro e w' ⟨p1, rfl, he1, hb1⟩)
           | (go_at_call 18; refine (links0 _).mono ?_; rintro e w' ⟨p2, rfl, he2, hb2⟩)
           | ((with_reducible refine (findE he2 _).mono ?_); rintro e w' ⟨rfl, hb3⟩)
           | ((with_reducible refine (findE he1 _).mono ?_); rintro e w' ⟨rfl, hb3⟩))
  rename_i hHeld
  have HF := Lib.hid (nx HX.out hHeld.1)
  clear hHeld
  go_wp2_with fail
  go_ret
  exact ⟨rfl, HF.out⟩
set_option maxRecDepth 100000 in
theorem roleAt0 (w : World) : Calls Try.prog 19 #[.pointer none, .int .i64 0] w fun e w' => e = .returned zeroR.val ∧ RowKit.Below w.heap.size w w' := by
  have hall : allB 0 [0] = false := by decide
  have HB0 := Lib.hid (fun w' => belowL w' [0] 0 (by simp))
  rw [hall] at HB0
  simp only [List.length_cons, List.length_nil, Nat.zero_add, List.map_cons, List.map_nil] at HB0
  unfold zeroR noText Rl.val
  go_enter Try.func19, Try.ntmps19
  go_wp2_with fail
  refine (roles0 _).mono ?_
  rintro e w1 ⟨rfl, hb⟩
  have HH1 : Hid (w1.heap[w.heap.size]? = some (.cells #[.string ⟨#[]⟩, .string ⟨#[]⟩] 24 (0, 0))) := Lib.hid ((hb.block w.heap.size (by simp)).trans (heap_alloc_new w _))
  have HB1 := Lib.hid (nx ((Below.refl w.heap.size w).alloc (Nat.le_refl _) _) hb)
  clear hb
  go_wp2_with fail
  refine (HB0.out w1).mono ?_
  rintro e w2 ⟨rfl, hb⟩
  have HH := Lib.hid ((hb.block w.heap.size (Array.getElem?_eq_some_iff.1 HH1.out).1).trans HH1.out)
  have HBel := Lib.hid (nx HB1.out hb)
  clear hb HH1 HB1
  go_wp2_with (refine wpList_store_row rfl 24 _ _ rfl w.heap.size #[.string ⟨#[]⟩, .string ⟨#[]⟩] rfl rfl 24 _ HH.out infoRole2 rfl (one2 _ _) ?_)
  exact bodyPost_ret (v := .agg #[.string ⟨#[]⟩, .string ⟨#[]⟩]) (results_cell_row (cs := #[.string ⟨#[]⟩, .string ⟨#[]⟩]) (fn := Try.f19) rfl _ _ w.heap.size 24 (0, 0) _ rfl (setRow_heap _ _ _ _ _ _ HH.out) Try.underlying24 rfl infoRole2) rfl ⟨rfl, below_setRow HBel.out (Nat.le_refl _) _⟩
set_option maxRecDepth 100000 in
theorem putR0 (w : World) (x : Rl) (u : Ru) (r o : Nat) (hr : RuAt w r u) (h1 : 1 ≤ o) (h5 : o ≤ 5) :
    Calls Try.prog 36 #[.pointer (some ⟨r, o, none⟩), .func (.func 13) #[.pointer none] #[], x.val] w (PutPost (-1) u o r w) := by
  have HR := Lib.hid (fun w' => role0 x w')
  have HS : Hid (∀ w1, RowKit.Below w.heap.size w w1 → RuAt w1 r u) := Lib.hid (fun w1 hb => hr.below hb)
  obtain ⟨xo, xn⟩ := x
  unfold Rl.val at *
  simp only at *
  clear hr
  obtain ⟨z, hz⟩ : ∃ z : Value, u.cells[o]? = some z := by
    have : o < u.cells.size := by show o < 6; omega
    exact ⟨_, Array.getElem?_eq_getElem this⟩
  have HZ := Lib.hid hz
  clear hz
  go_enter Try.func36, Try.ntmps36
  go_wp2_with fail
  refine (HR.out _).mono ?_
  rintro e w1 ⟨rfl, hb⟩
  have hb1 : RowKit.Below w.heap.size w w1 := ((Below.refl w.heap.size w).alloc (Nat.le_refl _) _).trans (hb.mono (by simp))
  have hru := HS.out w1 hb1
  have hc := (hru.cell o).trans HZ.out
  have hfz := hru.free o
  have hfin : PutPost (-1) u o r w (.returned (.bool (decide ((0 : Int) ≤ -1)))) (w1.setCell ⟨r, o, none⟩ (.int .i64 (-1))) := ⟨rfl, hru.put o h1 h5 (-1), below_set hb1⟩
  have HFin := Lib.hid hfin
  clear hb hb1 hru hfin
  go_wp2_with fail
  go_ret
  exact HFin.out
set_option maxHeartbeats 1000000 in
set_option maxRecDepth 100000 in
theorem rule0 (w : World) (s : St) (hf : s.fit) : Calls Try.prog 11 #[.pointer none, s.val] w (RulePost false zeroU w) := by
  have HR : Hid (∀ w', Calls Try.prog 35 #[s.val] w' fun e w'' => e = .returned (.bool s.right) ∧ RowKit.Below w'.heap.size w' w'') := Lib.hid (fun w' => (Syn7.right s w' hf).mono fun e w'' h => ⟨by rw [h.1], h.2.below⟩)
  have HPut := Lib.hid (fun w' r hr => putR0 w' s.head ⟨s.kind, 0, 0, 0, 0, 0⟩ r 1 hr (by omega) (by omega))
  unfold PutPost at HPut
  generalize s.right = rr at *
  obtain ⟨k, ⟨ho', hn⟩, wh, ⟨ao, an⟩, ⟨bo, bn⟩, v⟩ := s
  unfold St.val Rl.val at *
  simp only at *
  clear hf
  have hmf : ∀ (fn : Fn) (first cap : Array Value) (w : World), (Instr.makeFunc fn first cap).run Try.prog w = .ok (.func fn first cap) w := fun _ _ _ _ => rfl
  have key : ∀ w1 : World, RowKit.Below (((w.alloc (.cells #[.int .i64 k, .string ho', .string hn, .string wh, .string ao, .string an, .string bo, .string bn, .string v] 26)).alloc (.cells #[.int .i64 0, .int .i64 0, .int .i64 0, .int .i64 0, .int .i64 0, .int .i64 0] 34)).alloc (.cells #[.int .i64 k, .int .i64 0, .int .i64 0, .int .i64 0, .int .i64 0, .int .i64 0] 34)).heap.size (((w.alloc (.cells #[.int .i64 k, .string ho', .string hn, .string wh, .string ao, .string an, .string bo, .string bn, .string v] 26)).alloc (.cells #[.int .i64 0, .int .i64 0, .int .i64 0, .int .i64 0, .int .i64 0, .int .i64 0] 34)).alloc (.cells #[.int .i64 k, .int .i64 0, .int .i64 0, .int .i64 0, .int .i64 0, .int .i64 0] 34)) w1 →
      RowKit.Below w.heap.size w w1 ∧ w1.heap[w.heap.size]? = some (.cells #[.int .i64 k, .string ho', .string hn, .string wh, .string ao, .string an, .string bo, .string bn, .string v] 26 (0, 0)) ∧ w1.heap[w.heap.size + 1]? = some (.cells zeroU.cells 34 (0, 0)) ∧ RuAt w1 (w.heap.size + 2) ⟨k, 0, 0, 0, 0, 0⟩ := fun w1 hb => by
    refine ⟨((((Below.refl w.heap.size w).alloc (Nat.le_refl _) _).alloc (by simp) _).alloc (by simp <;> omega) _).trans (hb.mono (by simp <;> omega)), ?_, ?_, ?_⟩
    · exact (hb.block _ (by simp <;> omega)).trans ((Below.heap_alloc _ _ _ (by simp <;> omega)).trans (heap_alloc2_old w _ _))
    · exact (hb.block _ (by simp <;> omega)).trans ((Below.heap_alloc _ _ _ (by simp)).trans (heap_alloc2_new w _ _))
    · have e := heap_alloc_new ((w.alloc (.cells #[.int .i64 k, .string ho', .string hn, .string wh, .string ao, .string an, .string bo, .string bn, .string v] 26)).alloc (.cells #[.int .i64 0, .int .i64 0, .int .i64 0, .int .i64 0, .int .i64 0, .int .i64 0] 34)) (.cells #[.int .i64 k, .int .i64 0, .int .i64 0, .int .i64 0, .int .i64 0, .int .i64 0] 34)
      have hz : ((w.alloc (.cells #[.int .i64 k, .string ho', .string hn, .string wh, .string ao, .string an, .string bo, .string bn, .string v] 26)).alloc (.cells #[.int .i64 0, .int .i64 0, .int .i64 0, .int .i64 0, .int .i64 0, .int .i64 0] 34)).heap.size = w.heap.size + 2 := by simp
      rw [hz] at e
      exact (hb.block _ (by simp)).trans e
  have HK := Lib.hid key
  clear key
  go_enter Try.func11, Try.ntmps11
  go_wp2_with fail
  refine (HR.out _).mono ?_
  rintro e w1 ⟨rfl, hb⟩
  obtain ⟨k1, k2, k3, k4⟩ := HK.out w1 hb
  have hc1 := fun o => Lib.cell_of_heap k2 o
  have H1 := Lib.hid k1
  have H3 := Lib.hid k3
  have H4 := Lib.hid k4
  clear k1 k2 k3 k4 hb
  cases rr
  · clear HPut hmf
    go_wp2_with (refine wpList_store_row rfl 34 _ _ rfl (w.heap.size + 1) zeroU.cells rfl rfl 34 _ H3.out infoRule rfl (one6 _) ?_)
    have hl := cell_rule (u := zeroU) H3.out
    have hz := below_setRow H1.out (show w.heap.size ≤ w.heap.size + 1 by omega) (zeroU).cells
    generalize World.setRow _ (w.heap.size + 1) (zeroU).cells = wz at hl hz ⊢
    refine bodyPost_ret (v := .tuple #[.agg zeroU.cells, .bool false]) (by simp [results, Try.results11, go_sem, hl, Ru.cells]) rfl ⟨rfl, hz⟩
  · go_wp2_with fail
    refine (HPut.out _ (w.heap.size + 2) H4.out).mono ?_
    rintro e w2 ⟨rfl, hru, hg⟩
    have hlt3 : w.heap.size + 2 < w1.heap.size := RuAt.lt H4.out
    have hg3 := (hg.block (w.heap.size + 1) (by omega) (by simp)).trans H3.out
    have G1 := Lib.hid (H1.out.grown hg H1.out.size (fun k hk => by injection hk with hk; omega))
    have G3 := Lib.hid hg3
    clear hc1 H1 H3 H4 hru hg hg3 hlt3
    go_wp2_with (refine wpList_store_row rfl 34 _ _ rfl (w.heap.size + 1) zeroU.cells rfl rfl 34 _ G3.out infoRule rfl (one6 _) ?_)
    have hl := cell_rule (u := zeroU) G3.out
    have hz := below_setRow G1.out (show w.heap.size ≤ w.heap.size + 1 by omega) (zeroU).cells
    generalize World.setRow _ (w.heap.size + 1) (zeroU).cells = wz at hl hz ⊢
    refine bodyPost_ret (v := .tuple #[.agg zeroU.cells, .bool false]) (by simp [results, Try.results11, go_sem, hl, Ru.cells]) rfl ⟨rfl, hz⟩
end Go.Proofs.Ytnhjnimgjpgfcaa.TblS
