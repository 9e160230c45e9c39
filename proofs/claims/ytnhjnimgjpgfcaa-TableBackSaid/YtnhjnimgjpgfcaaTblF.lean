/- Tables: Rule, by contract. -/
import Derived.Test.YtnhjnimgjpgfcaaTblE
import Derived.Test.YtnhjnimgjpgfcaaSyn7
namespace Go.Proofs.Ytnhjnimgjpgfcaa.TblF
open Go.RowKit Go.Sort Go.Lib Go.Proofs Go.Proofs.Ytnhjnimgjpgfcaa.Plain Go.Proofs.Ytnhjnimgjpgfcaa.SynP Go.Proofs.Ytnhjnimgjpgfcaa.Grown Go.Proofs.Ytnhjnimgjpgfcaa.TabP Go.Proofs.Ytnhjnimgjpgfcaa.Tab1 Go.Proofs.Ytnhjnimgjpgfcaa.Tab2 Go.Proofs.Ytnhjnimgjpgfcaa.RolK Go.Proofs.Ytnhjnimgjpgfcaa.TblA Go.Proofs.Ytnhjnimgjpgfcaa.TblB Go.Proofs.Ytnhjnimgjpgfcaa.TblC Go.Proofs.Ytnhjnimgjpgfcaa.TblD Go.Proofs.Ytnhjnimgjpgfcaa.TblE
set_option linter.unusedVariables false
set_option linter.unusedSimpArgs false
def ruleV (P L : List Str) (s : St) : Ru :=
  ⟨s.kind, roleI P L s.head, if s.kind = 1 then findI P s.who.toList else 0, if s.kind = 1 then 0 else roleI P L s.a, if s.kind = 4 then roleI P L s.b else 0, if s.kind = 3 then findI L s.via.toList else 0⟩
def restOk (P L : List Str) (s : St) : Bool :=
  if s.kind = 1 then decide (0 ≤ findI P s.who.toList) else if s.kind = 3 then decide (0 ≤ findI L s.via.toList) && decide (0 ≤ roleI P L s.a) else if s.kind = 4 then decide (0 ≤ roleI P L s.a) && decide (0 ≤ roleI P L s.b) else decide (0 ≤ roleI P L s.a)
def ruleOk (P L : List Str) (s : St) : Bool := s.right && decide (0 ≤ roleI P L s.head) && restOk P L s
def ruleA (P L : List Str) (s : St) : Ru := if ruleOk P L s then ruleV P L s else zeroU
theorem kind_of_right {s : St} (h : s.right = true) : s.kind = 1 ∨ s.kind = 2 ∨ s.kind = 3 ∨ s.kind = 4 := by
  unfold St.right at h
  rw [Bool.and_eq_true, Bool.and_eq_true] at h
  have h2 := h.1.2
  unfold St.says at h2
  by_cases a : s.kind = 1
  · exact Or.inl a
  · rw [if_neg a] at h2
    by_cases b : s.kind = 2
    · exact Or.inr (Or.inl b)
    · rw [if_neg b] at h2
      by_cases c : s.kind = 3
      · exact Or.inr (Or.inr (Or.inl c))
      · rw [if_neg c] at h2
        by_cases d : s.kind = 4
        · exact Or.inr (Or.inr (Or.inr d))
        · rw [if_neg d] at h2; cases h2
section
variable {t a b : Nat} {A1 : Option Addr} {c1 : Nat} {A2 : Option Addr} {c2 : Nat} {P L : List Str}
set_option maxRecDepth 100000
theorem say (w0 w : World) (h : TblK w0 t a b A1 c1 A2 c2 P L) (hb0 : RowKit.Below w0.heap.size w0 w) (s : St) (hs : s.right = true) (r : Nat) (hr : RuAt w r ⟨s.kind, roleI P L s.head, 0, 0, 0, 0⟩) (hr0 : w0.heap.size ≤ r) :
    Calls Try.prog 37 #[.pointer (some ⟨t, 0, none⟩), .pointer (some ⟨r, 0, none⟩), s.val] w (SayPost (restOk P L s) (ruleV P L s) r w) := by
  obtain ⟨k, ⟨ho, hn⟩, wh, ⟨ao, an⟩, ⟨bo, bn⟩, v⟩ := s
  rcases kind_of_right hs with hk | hk | hk | hk
  all_goals (simp only at hk; subst hk)
  · exact say1 w (h.keep hb0) ho hn wh ao an bo bn v _ r hr
  · exact say2 w (h.keep hb0) ho hn wh ao an bo bn v _ r hr
  · exact say3 w0 w h hb0 ho hn wh ao an bo bn v _ r hr hr0
  · exact say4 w0 w h hb0 ho hn wh ao an bo bn v _ r hr hr0
def RulePost (ok : Bool) (u : Ru) (w : World) (e : Ending) (w' : World) : Prop := e = .returned (.tuple #[.agg u.cells, .bool ok]) ∧ RowKit.Below w.heap.size w w'
theorem infoRule : (Try.prog.info? 34).map (·.size) = some 6 := by kernel_rfl
theorem load_rule {w : World} {n : Nat} {cs : Array Value} (h : w.heap[n]? = some (.cells cs 34 (0, 0))) (hs : cs.size = 6) : (loadVar 34 ⟨n, 0, none⟩).run Try.prog w = .ok (.agg cs) w :=
  run_loadVar_row w n 34 34 cs (0, 0) _ h Try.underlying34 rfl (by rw [hs]; exact infoRule)
theorem cell_rule {w : World} {n : Nat} {old : Array Value} {u : Ru} (h : w.heap[n]? = some (.cells old 34 (0, 0))) (o : Nat) : (w.setRow n u.cells).cell? ⟨n, o, none⟩ = (#[.int .i64 u.kind, .int .i64 u.head, .int .i64 u.who, .int .i64 u.a, .int .i64 u.b, .int .i64 u.via] : Array Value)[o]? := cell_setRow_same w n o old u.cells _ _ h
theorem one6 (u : Ru) : u.cells.all (·.oneCell') = true :=
  all_oneCell_toArray (cs := [.int .i64 u.kind, .int .i64 u.head, .int .i64 u.who, .int .i64 u.a, .int .i64 u.b, .int .i64 u.via]) (fun v hv => by simp at hv; rcases hv with rfl | rfl | rfl | rfl | rfl | rfl <;> rfl)
set_option maxHeartbeats 1000000 in
theorem rule_no (w : World) (h : TblK w t a b A1 c1 A2 c2 P L) (s : St) (hf : s.fit) (hs : s.right = false) :
    Calls Try.prog 11 #[.pointer (some ⟨t, 0, none⟩), s.val] w (RulePost (ruleOk P L s) (ruleA P L s) w) := by
  have ho : ruleOk P L s = false := by unfold ruleOk; rw [hs]; rfl
  have hu : ruleA P L s = zeroU := by unfold ruleA; rw [ho]; rfl
  rw [ho, hu]
  have HR : Hid (∀ w', Calls Try.prog 35 #[s.val] w' fun e w'' => e = .returned (.bool false) ∧ RowKit.Below w'.heap.size w' w'') := Lib.hid (fun w' => (Syn7.right s w' hf).mono fun e w'' h => ⟨by rw [h.1, hs], h.2.below⟩)
  obtain ⟨k, ⟨ho', hn⟩, wh, ⟨ao, an⟩, ⟨bo, bn⟩, v⟩ := s
  unfold St.val at *
  simp only at *
  clear h hf hs ho hu
  go_enter Try.func11, Try.ntmps11
  go_wp2_with fail
  refine (HR.out _).mono ?_
  rintro e w1 ⟨rfl, hb⟩
  have h4 : w1.heap[w.heap.size + 1]? = some (.cells zeroU.cells 34 (0, 0)) := (hb.block _ (by simp <;> omega)).trans ((Below.heap_alloc _ _ _ (by simp)).trans (heap_alloc2_new w _ _))
  have hbel : RowKit.Below w.heap.size w w1 := ((((Below.refl w.heap.size w).alloc (Nat.le_refl _) _).alloc (by simp) _).alloc (by simp <;> omega) _).trans (hb.mono (by simp <;> omega))
  have H4 := Lib.hid h4
  have HB := Lib.hid hbel
  clear h4 hbel hb
  go_wp2_with (refine wpList_store_row rfl 34 _ _ rfl (w.heap.size + 1) zeroU.cells rfl rfl 34 _ H4.out infoRule rfl (one6 _) ?_)
  have hl := cell_rule (u := zeroU) H4.out
  have hz := below_setRow HB.out (show w.heap.size ≤ w.heap.size + 1 by omega) (zeroU).cells
  generalize World.setRow _ (w.heap.size + 1) (zeroU).cells = wz at hl hz ⊢
  refine bodyPost_ret (v := .tuple #[.agg zeroU.cells, .bool false]) (by simp [results, Try.results11, go_sem, hl, Ru.cells]) rfl ⟨rfl, hz⟩
theorem fst_ite {α : Type} (x y : α) : (if (1 : Int) = 1 then x else y) = x := rfl
set_option maxHeartbeats 2000000 in
theorem rule_yes (w : World) (h : TblK w t a b A1 c1 A2 c2 P L) (s : St) (hf : s.fit) (hs : s.right = true) :
    Calls Try.prog 11 #[.pointer (some ⟨t, 0, none⟩), s.val] w (RulePost (ruleOk P L s) (ruleA P L s) w) := by
  have HR : Hid (∀ w', Calls Try.prog 35 #[s.val] w' fun e w'' => e = .returned (.bool true) ∧ RowKit.Below w'.heap.size w' w'') := Lib.hid (fun w' => (Syn7.right s w' hf).mono fun e w'' h => ⟨by rw [h.1, hs], h.2.below⟩)
  have HPut := Lib.hid (fun w' hb r hr => putR w' (h.keep hb) s.head ⟨s.kind, 0, 0, 0, 0, 0⟩ r 1 hr (by omega) (by omega))
  have HSay := Lib.hid (fun w' hb r hr hr0 => say w w' h hb s hs r hr hr0)
  have hru : ruleOk P L s = (decide (0 ≤ roleI P L s.head) && restOk P L s) := by unfold ruleOk; rw [hs, Bool.true_and]
  have hua : ∀ o, ruleOk P L s = o → ruleA P L s = if o then ruleV P L s else zeroU := fun o e => by unfold ruleA; rw [e]
  have HU := Lib.hid hua
  have HO := Lib.hid hru
  unfold PutPost at HPut
  unfold SayPost at HSay
  obtain ⟨k, ⟨ho', hn⟩, wh, ⟨ao, an⟩, ⟨bo, bn⟩, v⟩ := s
  have hset : (⟨k, 0, 0, 0, 0, 0⟩ : Ru).set 1 (roleI P L ⟨ho', hn⟩) = ⟨k, roleI P L ⟨ho', hn⟩, 0, 0, 0, 0⟩ := rfl
  unfold St.val Rl.val at *
  simp only [hset] at *
  generalize ruleV P L _ = uV at *
  generalize ruleA P L _ = uA at *
  generalize ruleOk P L _ = ok at *
  generalize restOk P L _ = rest at *
  generalize roleI P L _ = x at *
  clear h hf hs hru hua hset
  have hmf : ∀ (fn : Fn) (first cap : Array Value) (w : World), (Instr.makeFunc fn first cap).run Try.prog w = .ok (.func fn first cap) w := fun _ _ _ _ => rfl
  have key : ∀ w1 : World, RowKit.Below (((w.alloc (.cells #[.int .i64 k, .string ho', .string hn, .string wh, .string ao, .string an, .string bo, .string bn, .string v] 26)).alloc (.cells #[.int .i64 0, .int .i64 0, .int .i64 0, .int .i64 0, .int .i64 0, .int .i64 0] 34)).alloc (.cells #[.int .i64 k, .int .i64 0, .int .i64 0, .int .i64 0, .int .i64 0, .int .i64 0] 34)).heap.size (((w.alloc (.cells #[.int .i64 k, .string ho', .string hn, .string wh, .string ao, .string an, .string bo, .string bn, .string v] 26)).alloc (.cells #[.int .i64 0, .int .i64 0, .int .i64 0, .int .i64 0, .int .i64 0, .int .i64 0] 34)).alloc (.cells #[.int .i64 k, .int .i64 0, .int .i64 0, .int .i64 0, .int .i64 0, .int .i64 0] 34)) w1 →
      RowKit.Below w.heap.size w w1 ∧ w1.heap[w.heap.size]? = some (.cells #[.int .i64 k, .string ho', .string hn, .string wh, .string ao, .string an, .string bo, .string bn, .string v] 26 (0, 0)) ∧ w1.heap[w.heap.size + 1]? = some (.cells zeroU.cells 34 (0, 0)) ∧ RuAt w1 (w.heap.size + 2) ⟨k, 0, 0, 0, 0, 0⟩ := fun w1 hb => by
    refine ⟨((((Below.refl w.heap.size w).alloc (Nat.le_refl _) _).alloc (by simp) _).alloc (by simp <;> omega) _).trans (hb.mono (by simp <;> omega)), ?_, ?_, ?_⟩
    · exact (hb.block _ (by simp <;> omega)).trans ((Below.heap_alloc _ _ _ (by simp <;> omega)).trans (heap_alloc2_old w _ _))
    · exact (hb.block _ (by simp <;> omega)).trans ((Below.heap_alloc _ _ _ (by simp)).trans (heap_alloc2_new w _ _))
    · have e := heap_alloc_new ((w.alloc (.cells #[.int .i64 k, .string ho', .string hn, .string wh, .string ao, .string an, .string bo, .string bn, .string v] 26)).alloc (.cells #[.int .i64 0, .int .i64 0, .int .i64 0, .int .i64 0, .int .i64 0, .int .i64 0] 34)) (.cells #[.int .i64 k, .int .i64 0, .int .i64 0, .int .i64 0, .int .i64 0, .int .i64 0] 34)
      have hz : ((w.alloc (.cells #[.int .i64 k, .string ho', .string hn, .string wh, .string ao, .string an, .string bo, .string bn, .string v] 26)).alloc (.cells #[.int .i64 0, .int .i64 0, .int .i64 0, .int .i64 0, .int .i64 0, .int .i64 0] 34)).heap.size = w.heap.size + 2 := by simp
      rw [hz] at e
      exact (hb.block _ (by simp)).trans e
  have HK := Lib.hid key
  clear key
  have HC : Hid (∀ (w' : World), w'.heap[w.heap.size]? = some (.cells #[.int .i64 k, .string ho', .string hn, .string wh, .string ao, .string an, .string bo, .string bn, .string v] 26 (0, 0)) → ∀ o, w'.cell? ⟨w.heap.size, o, none⟩ = (#[.int .i64 k, .string ho', .string hn, .string wh, .string ao, .string an, .string bo, .string bn, .string v] : Array Value)[o]?) := Lib.hid (fun w' e o => Lib.cell_of_heap e o)
  go_enter Try.func11, Try.ntmps11
  go_wp2_with fail
  refine (HR.out _).mono ?_
  rintro e w1 ⟨rfl, hb⟩
  obtain ⟨k1, k2, k3, k4⟩ := HK.out w1 hb
  have hc1 := HC.out w1 k2
  have H1 := Lib.hid k1
  have H2 := Lib.hid k2
  have H3 := Lib.hid k3
  have H4 := Lib.hid k4
  clear k1 k2 k3 k4 hb
  go_wp2_with fail
  refine (HPut.out _ H1.out (w.heap.size + 2) H4.out).mono ?_
  rintro e w2 ⟨rfl, hru, hg⟩
  have h1 := H1.out.grown hg H1.out.size (fun k hk => by injection hk with hk; omega)
  have hlt3 : w.heap.size + 2 < w1.heap.size := RuAt.lt H4.out
  have hg2 := (hg.block w.heap.size (by omega) (by simp)).trans H2.out
  have hg3 := (hg.block (w.heap.size + 1) (by omega) (by simp)).trans H3.out
  have G1 := Lib.hid h1
  have G2 := Lib.hid hg2
  have G3 := Lib.hid hg3
  have G4 := Lib.hid hru
  have hc2 := HC.out w2 hg2
  clear hc1 H1 H2 H3 H4 hru hg h1 hg2 hg3 hlt3
  by_cases hx : 0 ≤ x
  · have hd : decide (0 ≤ x) = true := decide_eq_true hx
    have ho := HO.out
    rw [hd, Bool.true_and] at ho
    subst ho
    clear hx
    go_wp2_with fail
    refine (HSay.out _ G1.out (w.heap.size + 2) G4.out (by omega)).mono ?_
    rintro e w3 ⟨rfl, ⟨u', hu', hq⟩, hg⟩
    have hlt3 : w.heap.size + 2 < w2.heap.size := RuAt.lt G4.out
    have h3 := (hg.block (w.heap.size + 1) (by omega) (by simp)).trans G3.out
    have h1 := G1.out.grown hg G1.out.size (fun k hk => by injection hk with hk; omega)
    have K1 := Lib.hid h1
    have K3 := Lib.hid h3
    have K4 := Lib.hid hu'
    have KQ := Lib.hid hq
    clear hc2 G1 G2 G3 G4 hu' hq hg h1 h3 hlt3
    have hfin := HU.out
    cases ok
    · have e2 := HU.out false rfl
      simp only [Bool.false_eq_true, if_false] at e2
      subst e2
      clear hfin
      go_wp2_with (refine wpList_store_row rfl 34 _ _ rfl (w.heap.size + 1) zeroU.cells rfl rfl 34 _ K3.out infoRule rfl (one6 _) ?_)
      have hl := cell_rule (u := zeroU) K3.out
      have hz := below_setRow K1.out (show w.heap.size ≤ w.heap.size + 1 by omega) (zeroU).cells
      generalize World.setRow _ (w.heap.size + 1) (zeroU).cells = wz at hl hz ⊢
      refine bodyPost_ret (v := .tuple #[.agg zeroU.cells, .bool false]) (by simp [results, Try.results11, go_sem, hl, Ru.cells]) rfl ⟨rfl, hz⟩
    · have e2 := HU.out true rfl
      simp only [if_true] at e2
      obtain rfl := KQ.out rfl
      subst e2
      clear hfin
      go_wp2_with (first | (refine wpList_load_row rfl 34 _ rfl (w.heap.size + 1 + 1) rfl 34 uA.cells (0, 0) _ K4.out Try.underlying34 rfl infoRule ?_) | (refine wpList_store_row rfl 34 _ _ rfl (w.heap.size + 1) uA.cells rfl rfl 34 _ K3.out infoRule rfl (one6 _) ?_))
      have hl := cell_rule (u := uA) K3.out
      have hz := below_setRow K1.out (show w.heap.size ≤ w.heap.size + 1 by omega) uA.cells
      generalize World.setRow _ (w.heap.size + 1) uA.cells = wz at hl hz ⊢
      refine bodyPost_ret (v := .tuple #[.agg uA.cells, .bool true]) (by simp [results, Try.results11, go_sem, hl, Ru.cells]) rfl ⟨rfl, hz⟩
  · have hd : decide (0 ≤ x) = false := decide_eq_false hx
    have ho := HO.out
    rw [hd, Bool.false_and] at ho
    subst ho
    have e2 := HU.out false rfl
    simp only [Bool.false_eq_true, if_false] at e2
    subst e2
    clear hx
    go_wp2_with (refine wpList_store_row rfl 34 _ _ rfl (w.heap.size + 1) zeroU.cells rfl rfl 34 _ G3.out infoRule rfl (one6 _) ?_)
    have hl := cell_rule (u := zeroU) G3.out
    have hz := below_setRow G1.out (show w.heap.size ≤ w.heap.size + 1 by omega) (zeroU).cells
    generalize World.setRow _ (w.heap.size + 1) (zeroU).cells = wz at hl hz ⊢
    refine bodyPost_ret (v := .tuple #[.agg zeroU.cells, .bool false]) (by simp [results, Try.results11, go_sem, hl, Ru.cells]) rfl ⟨rfl, hz⟩
theorem rule (w : World) (h : TblK w t a b A1 c1 A2 c2 P L) (s : St) (hf : s.fit) :
    Calls Try.prog 11 #[.pointer (some ⟨t, 0, none⟩), s.val] w (RulePost (ruleOk P L s) (ruleA P L s) w) := by
  cases hs : s.right with
  | true => exact rule_yes w h s hf hs
  | false => exact rule_no w h s hf hs
end
end Go.Proofs.Ytnhjnimgjpgfcaa.TblF
