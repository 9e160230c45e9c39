/- The line of a query, in the program, by contract. -/
import Derived.Test.YtkmpbkgmdfeicaaGreatM16
import Derived.Test.YtkmpbkgmdfeicaaGreatM14
import Derived.Test.YtkmpbkgmdfeicaaGreatJoin
import Derived.Test.YtkmpbkgmdfeicaaGreatM08
import Derived.Test.YtkmpbkgmdfeicaaGreatM15
namespace Go.Proofs.YtkmpbkgmdfeicaaGreat.QryH
set_option linter.unusedVariables false
set_option linter.unusedSimpArgs false
open Go.RowKit Go.Sort Go.Proofs Go.Proofs.YtkmpbkgmdfeicaaGreat.Plain Go.Proofs.YtkmpbkgmdfeicaaGreat.SynP Go.Proofs.YtkmpbkgmdfeicaaGreat.TabP Go.Proofs.YtkmpbkgmdfeicaaGreat.Tab1 Go.Proofs.YtkmpbkgmdfeicaaGreat.Grown Go.Proofs.YtkmpbkgmdfeicaaGreat.SynC Go.Proofs.YtkmpbkgmdfeicaaGreat.SynW Go.Proofs.YtkmpbkgmdfeicaaGreat.QryP Go.Proofs.YtkmpbkgmdfeicaaGreat.Qry2 Go.Proofs.YtkmpbkgmdfeicaaGreat.Qry4 Go.Proofs.YtkmpbkgmdfeicaaGreat.Qry5 Go.Proofs.YtkmpbkgmdfeicaaGreat.QryG Go.Proofs.YtkmpbkgmdfeicaaGreat.Qry6 Go.Proofs.YtkmpbkgmdfeicaaGreat.Qry7 Go.Proofs.YtkmpbkgmdfeicaaGreat.QryA Go.Proofs.YtkmpbkgmdfeicaaGreat.QryL
set_option linter.unusedVariables false
set_option linter.unusedSimpArgs false
theorem bs_of (x : ByteArray) : x = ⟨(bs x).toArray⟩ := text_of x
theorem joinS (A : Option Addr) (c : Nat) (T : List Str) (w : World) (h0 : 0 < T.length) (hT : T.length ≤ 1000) (hs : ∀ s ∈ T, s.length ≤ 1000) (hc : T.length ≤ c) (hA : SRow w A T) :
    Calls Tryz.prog 41 #[.slice A T.length c, .string ⟨#[32]⟩] w fun e w' => e = .returned (.string ⟨(Lib.join T [32]).toArray⟩) ∧ RowKit.Below w.heap.size w w' := by
  obtain ⟨g, o, rfl, hg, hcell⟩ := hA h0
  have e1 : (T.map enB).map (·.data.toList) = T := by
    rw [List.map_map]
    exact (List.map_congr_left fun x _ => by simp [enB]).trans (List.map_id _)
  have hl : (Lib.join T [32]).length ≤ 140737488355328 := by
    cases T with
    | nil => simp [Lib.join]
    | cons x T =>
      rw [join_tail, List.length_append]
      have h1 := hs x (List.mem_cons_self ..)
      have h2 := tailW_len (T := T) (m := 1000) fun s h => hs s (List.mem_cons_of_mem _ h)
      simp at hT
      have h3 : T.length * (1000 + 1) ≤ 1000 * (1000 + 1) := Nat.mul_le_mul_right _ (by omega)
      omega
  have := Any.strings_Join Join.laysJoin Join.laysJoinX g o c (T.map enB) ⟨#[32]⟩ w (fun j x hx => by
    rw [List.getElem?_map] at hx
    obtain ⟨t, ht, rfl⟩ := Option.map_eq_some_iff.1 hx
    have hj := (List.getElem?_eq_some_iff.1 ht).1
    rw [hcell j hj]
    rw [List.getElem?_eq_getElem hj] at ht
    injection ht with ht
    rw [ht]; rfl) hg (by rw [List.length_map]; omega) (by rw [List.length_map]; exact hc) (by rw [e1]; exact hl)
  rw [e1, List.length_map] at this
  exact this
theorem vrow_of {w : World} {A : Option Addr} {T : List Str} (h : SRow w A T) : VRow w A (T.map encStr) := fun hp => by
  obtain ⟨g, o, e, hg, hc⟩ := h (by simpa using hp)
  refine ⟨g, o, e, hg, fun j hj => ?_⟩
  rw [List.length_map] at hj
  rw [hc j hj]
  simp [encStr]
theorem srow_two (X : World) (x y : ByteArray) : SRow (X.alloc (.cells #[.string x, .string y] 9)) (some ⟨X.heap.size, 0, none⟩) [bs x, bs y] := by
  have h := srow_new X [bs x, bs y] 9
  have e : ((([bs x, bs y] : List Str).map encStr).toArray : Array Value) = #[.string x, .string y] := by
    have a := bs_of x
    have b := bs_of y
    show #[Value.string ⟨(bs x).toArray⟩, Value.string ⟨(bs y).toArray⟩] = _
    rw [← a, ← b]
  rw [e] at h
  exact h
/-- Three rows of texts behind one another. -/
theorem concat3s (X : World) (n : Nat) (hn : n = X.heap.size) (A0 A1 A2 : Option Addr) (c0 c1 c2 m0 m1 m2 : Nat) (T0 T1 T2 : List Str) (h0 : SRow X A0 T0) (h1 : SRow X A1 T1) (h2 : SRow X A2 T2) (e0 : T0.length = m0) (e1 : T1.length = m1) (e2 : T2.length = m2) (l0 : m0 ≤ 1000) (l1 : m1 ≤ 1000) (l2 : m2 ≤ 1000) :
    Calls Tryz.prog 85 #[.slice (some ⟨n, 0, none⟩) 3 3] (X.alloc (.cells #[.slice A0 m0 c0, .slice A1 m1 c1, .slice A2 m2 c2] 33)) fun e w' => ∃ v, e = .returned v ∧ w'.ownsRow (X.alloc (.cells #[.slice A0 m0 c0, .slice A1 m1 c1, .slice A2 m2 c2] 33)).heap.size 9 1 v (T0 ++ T1 ++ T2).length ((T0 ++ T1 ++ T2).map encStr) ∧ RowKit.Below (X.alloc (.cells #[.slice A0 m0 c0, .slice A1 m1 c1, .slice A2 m2 c2] 33)).heap.size (X.alloc (.cells #[.slice A0 m0 c0, .slice A1 m1 c1, .slice A2 m2 c2] 33)) w' := by
  subst hn; subst e0; subst e1; subst e2
  have one : ∀ T : List Str, ∀ u ∈ T.map encStr, u.oneCell' = true := fun T u hu => by
    obtain ⟨s, _, rfl⟩ := List.mem_map.1 hu
    rfl
  have hq := concatStr X.heap.size 3 [⟨A0, c0, T0.map encStr⟩, ⟨A1, c1, T1.map encStr⟩, ⟨A2, c2, T2.map encStr⟩] (X.alloc (.cells #[.slice A0 T0.length c0, .slice A1 T1.length c1, .slice A2 T2.length c2] 33)) (by simp) (by simp only [List.mem_cons, List.not_mem_nil, or_false]; rintro r (rfl | rfl | rfl) <;> (dsimp only; rw [List.length_map]; assumption)) (by simp) (fun j hj => by
    rw [Lib.cell_of_heap (heap_alloc_new X _)]
    match j, hj with
    | 0, _ => show some (Value.slice A0 T0.length c0) = some (.slice A0 (T0.map encStr).length c0); rw [List.length_map]
    | 1, _ => show some (Value.slice A1 T1.length c1) = some (.slice A1 (T1.map encStr).length c1); rw [List.length_map]
    | 2, _ => show some (Value.slice A2 T2.length c2) = some (.slice A2 (T2.map encStr).length c2); rw [List.length_map]) (by
    simp only [List.mem_cons, List.not_mem_nil, or_false]
    rintro r (rfl | rfl | rfl)
    · exact QryG.VRow.alloc (vrow_of h0) _
    · exact QryG.VRow.alloc (vrow_of h1) _
    · exact QryG.VRow.alloc (vrow_of h2) _) (by
    simp only [List.mem_cons, List.not_mem_nil, or_false]
    rintro r (rfl | rfl | rfl)
    · exact one _
    · exact one _
    · exact one _)
  refine hq.mono ?_
  rintro e w' ⟨v, rfl, hown, hb⟩
  have hfl : flatTo [⟨A0, c0, T0.map encStr⟩, ⟨A1, c1, T1.map encStr⟩, ⟨A2, c2, T2.map encStr⟩] ([⟨A0, c0, T0.map encStr⟩, ⟨A1, c1, T1.map encStr⟩, ⟨A2, c2, T2.map encStr⟩] : List RowV).length = (T0 ++ T1 ++ T2).map encStr := by simp [flatTo]
  rw [hfl, List.length_map] at hown
  exact ⟨v, rfl, hown, hb⟩
def LinePost (q : Qy) (w : World) (e : Ending) (w' : World) : Prop := e = .returned (.string (lineQ q)) ∧ RowKit.Below w.heap.size w w'
theorem fit_of_right {q : Qy} (h : q.right = true) : q.fit := by
  obtain ⟨ha, hc⟩ := right_parts h
  have role : ∀ r : Rl, r.ok = true → r.light := fun r h => by
    have := SynL.ok_small (o := r.owner) (n := r.name) h
    exact ⟨by unfold maxLen; omega, by unfold maxLen; omega⟩
  have zero : zeroR.light := ⟨by decide, by decide⟩
  refine ⟨role _ ha, ?_, ?_, ?_⟩
  · rcases hc with ⟨_, _, _, hb, _⟩ | ⟨_, _, hb⟩ | ⟨_, _, _, hb⟩
    · rw [hb]; exact zero
    · rw [hb]; exact zero
    · exact role _ hb
  · rcases hc with ⟨_, _, hw, _, _⟩ | ⟨_, hw, _⟩ | ⟨_, _, hw, _⟩
    · have := (who_parts hw).1; unfold maxLen; omega
    · rw [hw]; decide
    · rw [hw]; decide
  · rcases hc with ⟨_, _, hw, _, _⟩ | ⟨_, hw, _⟩ | ⟨_, _, hw, _⟩
    · intro s hs
      have := prin_len ((who_parts hw).2.1 s hs); unfold maxLen; omega
    · rw [hw]; intro s hs; simp at hs
    · rw [hw]; intro s hs; simp at hs
set_option maxHeartbeats 1000000 in
set_option maxRecDepth 100000 in
theorem print_no (k : Int) (ao an bo bn : ByteArray) (A : Option Addr) (c : Nat) (T : List Str) (w : World) (hf : Qy.fit ⟨k, ⟨ao, an⟩, ⟨bo, bn⟩, T⟩) (h : Qy.right ⟨k, ⟨ao, an⟩, ⟨bo, bn⟩, T⟩ = false) (hA : SRow w A T) :
    Calls Tryz.prog 44 #[.agg #[.int .i64 k, .string ao, .string an, .string bo, .string bn, .slice A T.length c]] w (LinePost ⟨k, ⟨ao, an⟩, ⟨bo, bn⟩, T⟩ w) := by
  have hR := fun w' (hr : SRow w' A T) => Qry2.right k ao an bo bn A c T w' hf hr
  unfold RightPost at hR
  rw [h] at hR
  have HR := Lib.hid hR
  have HA := Lib.hid hA
  have HL : Hid (lineQ ⟨k, ⟨ao, an⟩, ⟨bo, bn⟩, T⟩ = noText) := Lib.hid (by unfold lineQ; rw [if_neg (by rw [h]; decide)])
  clear h hR hf hA
  go_enter Tryz.func44, Tryz.ntmps44
  go_wp2_with fail
  refine (HR.out _ (HA.out.keep ((Below.refl _ _).alloc (Nat.le_refl _) _))).mono ?_
  rintro e w1 ⟨rfl, hb⟩
  go_wp2_with fail
  go_ret
  exact ⟨by rw [HL.out]; rfl, ((Below.refl _ _).alloc (Nat.le_refl _) _).trans (hb.mono (by simp))⟩
/-- The texts that a query's line joins, but the second role's. -/
def textsQ (q : Qy) : List Str := [bs (leadT q.kind), bs (textR q.a)] ++ wordsL q.kind ++ q.who
theorem join_no {q : Qy} (h : q.right = true) (hb : hasBk q.kind = false) : (⟨(Lib.join (textsQ q) [32]).toArray⟩ : ByteArray) = lineQ q := by
  unfold lineQ textsQ
  rw [if_pos h]
  have e : [bs (leadT q.kind), bs (textR q.a)] ++ wordsL q.kind ++ q.who = bs (leadT q.kind) :: ([bs (textR q.a)] ++ wordsL q.kind ++ q.who) := rfl
  rw [e, join_tail, tailW_app, tailW_app, words_tail (right_kind h)]
  unfold lineL
  rw [hb]
  simp
theorem join_yes {q : Qy} (h : q.right = true) (hb : hasBk q.kind = true) : (⟨(Lib.join (textsQ q ++ [bs (textR q.b)]) [32]).toArray⟩ : ByteArray) = lineQ q := by
  have hw : q.who = [] := by
    rcases (right_parts h).2 with ⟨_, e, _⟩ | ⟨e, _, _⟩ | ⟨_, _, e, _⟩
    · rw [e] at hb; cases hb
    · rw [e] at hb; exact absurd hb (by decide)
    · exact e
  unfold lineQ textsQ
  rw [if_pos h, hw, List.append_nil]
  have e : [bs (leadT q.kind), bs (textR q.a)] ++ wordsL q.kind ++ [bs (textR q.b)] = bs (leadT q.kind) :: ([bs (textR q.a)] ++ wordsL q.kind ++ [bs (textR q.b)]) := rfl
  rw [e, join_tail, tailW_app, tailW_app, words_tail (right_kind h)]
  unfold lineL
  rw [hb, hw, tailW_nil]
  simp
end Go.Proofs.YtkmpbkgmdfeicaaGreat.QryH
/- The line of a query that may be, in the program, by contract. -/
namespace Go.Proofs.YtkmpbkgmdfeicaaGreat.QryI
set_option linter.unusedVariables false
set_option linter.unusedSimpArgs false
open Go.RowKit Go.Sort Go.Proofs Go.Proofs.YtkmpbkgmdfeicaaGreat.Plain Go.Proofs.YtkmpbkgmdfeicaaGreat.SynP Go.Proofs.YtkmpbkgmdfeicaaGreat.TabP Go.Proofs.YtkmpbkgmdfeicaaGreat.Tab1 Go.Proofs.YtkmpbkgmdfeicaaGreat.Grown Go.Proofs.YtkmpbkgmdfeicaaGreat.SynC Go.Proofs.YtkmpbkgmdfeicaaGreat.SynW Go.Proofs.YtkmpbkgmdfeicaaGreat.QryP Go.Proofs.YtkmpbkgmdfeicaaGreat.Qry2 Go.Proofs.YtkmpbkgmdfeicaaGreat.Qry4 Go.Proofs.YtkmpbkgmdfeicaaGreat.Qry5 Go.Proofs.YtkmpbkgmdfeicaaGreat.QryG Go.Proofs.YtkmpbkgmdfeicaaGreat.Qry6 Go.Proofs.YtkmpbkgmdfeicaaGreat.Qry7 Go.Proofs.YtkmpbkgmdfeicaaGreat.QryA Go.Proofs.YtkmpbkgmdfeicaaGreat.QryL Go.Proofs.YtkmpbkgmdfeicaaGreat.QryH
set_option linter.unusedVariables false
set_option linter.unusedSimpArgs false
theorem chainP {w1 wz wp wb : World} {o : Obj} (hz : RowKit.Below w1.drew.heap.size w1.drew wz) (hp : RowKit.Below wz.heap.size wz wp) (hb : RowKit.Below (wp.alloc o).heap.size (wp.alloc o) wb) : RowKit.Below w1.heap.size w1 wb := by
  have a : RowKit.Below w1.heap.size w1 wz := ((Below.refl w1.heap.size w1).drew).trans hz
  have b := a.trans (hp.mono a.size)
  exact (b.alloc b.size o).trans (hb.mono (by have := b.size; simp; omega))
theorem chainQ {w1 wz wp wb : World} {o : Obj} (hz : RowKit.Below w1.drew.heap.size w1.drew wz) (hp : RowKit.Below wz.heap.size wz wp) (hb : RowKit.Below wp.heap.size wp wb) : RowKit.Below w1.heap.size w1 (wb.alloc o) := by
  have a : RowKit.Below w1.heap.size w1 wz := ((Below.refl w1.heap.size w1).drew).trans hz
  have b := a.trans (hp.mono a.size)
  have c := b.trans (hb.mono b.size)
  exact c.alloc c.size o
theorem new_one (X : World) (v : Value) (t : TypeId) : ∀ ad, (some ⟨X.heap.size, 0, none⟩ : Option Addr) = some ad → ∀ j u, [v][j]? = some u → (X.alloc (.cells #[v] t)).cell? (ad.add j) = some u := fun ad e j u hu => by
  injection e with e
  subst e
  rw [SynC.add_off, Nat.zero_add, Lib.cell_of_heap (heap_alloc_new X _)]
  simpa using hu
theorem words_len (k : Int) : (wordsL k).length ≤ 2 := by unfold wordsL; (repeat' split) <;> decide
theorem role_bs {r : Rl} (h : r.ok = true) : (bs (textR r)).length ≤ 1000 := by
  have a := role_size h
  have e : (bs (textR r)).length = (textR r).size := toList_len _
  omega
theorem texts_small {q : Qy} (h : q.right = true) : ∀ s ∈ textsQ q, s.length ≤ 1000 := by
  obtain ⟨ha, hc⟩ := right_parts h
  intro s hs
  unfold textsQ at hs
  rcases List.mem_append.1 hs with hs | hs
  · rcases List.mem_append.1 hs with hs | hs
    · rcases List.mem_cons.1 hs with rfl | hs
      · unfold leadT bs; split <;> decide
      · have : s = bs (textR q.a) := by simpa using hs
        rw [this]; exact role_bs ha
    · have key : ∀ k : Int, ∀ s ∈ wordsL k, s.length ≤ 1000 := by
        intro k s hs
        unfold wordsL at hs
        (repeat' split at hs) <;> simp at hs
        · rw [hs]; decide
        · rw [hs]; decide
        · rw [hs]; decide
        · rcases hs with hs | hs <;> rw [hs] <;> decide
        · rw [hs]; decide
        · rw [hs]; decide
      exact key _ s hs
  · rcases hc with ⟨_, _, hw, _, _⟩ | ⟨_, hw, _⟩ | ⟨_, _, hw, _⟩
    · have := prin_len ((who_parts hw).2.1 s hs); omega
    · rw [hw] at hs; simp at hs
    · rw [hw] at hs; simp at hs
theorem who_len {q : Qy} (h : q.right = true) : q.who.length ≤ 12 := by
  rcases (right_parts h).2 with ⟨_, _, hw, _, _⟩ | ⟨_, hw, _⟩ | ⟨_, _, hw, _⟩
  · exact (who_parts hw).1
  · rw [hw]; decide
  · rw [hw]; decide
set_option maxHeartbeats 4000000 in
set_option maxRecDepth 100000 in
theorem print_yes (k : Int) (ao an bo bn : ByteArray) (A : Option Addr) (c : Nat) (T : List Str) (w : World) (h : Qy.right ⟨k, ⟨ao, an⟩, ⟨bo, bn⟩, T⟩ = true) (hA : SRow w A T) :
    Calls Tryz.prog 44 #[.agg #[.int .i64 k, .string ao, .string an, .string bo, .string bn, .slice A T.length c]] w (LinePost ⟨k, ⟨ao, an⟩, ⟨bo, bn⟩, T⟩ w) := by
  obtain ⟨i0, hi, hz0, hz1, hz2⟩ := info_parts infoStr1
  have hR := fun w' (hr : SRow w' A T) => Qry2.right k ao an bo bn A c T w' (fit_of_right h) hr
  unfold RightPost at hR
  rw [h] at hR
  have HR := Lib.hid hR
  have HA := Lib.hid hA
  obtain ⟨pa, pc⟩ := right_parts h
  have sa := SynL.ok_small (o := ao) (n := an) pa
  have HP := Lib.hid (fun w' => SynL.printRole' ao an w' sa.1 sa.2)
  have HL' : Hid (∀ w', Calls Tryz.prog 86 #[.int .i64 k] w' fun e w'' => e = .returned (.string (leadT k)) ∧ RowKit.Below w'.heap.size w' w'') := Lib.hid (fun w' => (lead k w').mono fun e w'' ⟨he, m, hm⟩ => ⟨he, by rw [hm]; exact below_drewN (Below.refl _ _) _⟩)
  have HW := Lib.hid (words_ k ao an bo bn A T.length c)
  have HB := Lib.hid (hasB k)
  have hTl := who_len h
  have hTl' : T.length ≤ 12 := hTl
  have hwl := words_len k
  have HTx := Lib.hid (texts_small h)
  have l1 : (wordsL k).length ≤ 1000 := by omega
  have l2 : T.length ≤ 1000 := by omega
  have L12 : Hid ((2 ≤ 1000) ∧ (wordsL k).length ≤ 1000 ∧ T.length ≤ 1000) := Lib.hid ⟨by decide, l1, l2⟩
  clear l1 l2
  have hN : Hid (hasBk k = false → (⟨(Lib.join (textsQ ⟨k, ⟨ao, an⟩, ⟨bo, bn⟩, T⟩) [32]).toArray⟩ : ByteArray) = lineQ ⟨k, ⟨ao, an⟩, ⟨bo, bn⟩, T⟩) := Lib.hid (fun hb => join_no h hb)
  have hY : Hid (hasBk k = true → (⟨(Lib.join (textsQ ⟨k, ⟨ao, an⟩, ⟨bo, bn⟩, T⟩ ++ [bs (textR ⟨bo, bn⟩)]) [32]).toArray⟩ : ByteArray) = lineQ ⟨k, ⟨ao, an⟩, ⟨bo, bn⟩, T⟩) := Lib.hid (fun hb => join_yes h hb)
  have hB2 : Hid (hasBk k = true → Rl.ok ⟨bo, bn⟩ = true) := Lib.hid (fun hb => by
    rcases pc with ⟨_, e, _⟩ | ⟨e, _, _⟩ | ⟨_, _, _, e⟩
    · rw [show hasBk k = false from e] at hb; cases hb
    · have e' : k = 4 := e
      rw [e'] at hb; exact absurd hb (by decide)
    · exact e)
  generalize hlead : leadT k = ld at *
  generalize hrole : (ao ++ ⟨#[46]⟩ ++ an : ByteArray) = rl at *
  have HTQ : Hid (textsQ ⟨k, ⟨ao, an⟩, ⟨bo, bn⟩, T⟩ = [bs ld, bs rl] ++ wordsL k ++ T) := Lib.hid (by rw [← hlead, ← hrole]; rfl)
  clear h hR hA pa pc sa hTl hlead hrole
  go_enter Tryz.func44, Tryz.ntmps44
  go_wp2_with fail
  refine (HR.out _ (HA.out.keep ((Below.refl _ _).alloc (Nat.le_refl _) _))).mono ?_
  rintro e w1 ⟨rfl, hb1⟩
  have hbox : ∀ o, w1.cell? ⟨w.heap.size, o, none⟩ = (#[.int .i64 k, .string ao, .string an, .string bo, .string bn, .slice A T.length c] : Array Value)[o]? := fun o => (hb1.cell (p := ⟨w.heap.size, o, none⟩) (by simp)).trans (Lib.cell_of_heap (heap_alloc_new w _) o)
  have hbw := Lib.hid (((Below.refl w.heap.size w).alloc (Nat.le_refl _) (.cells #[.int .i64 k, .string ao, .string an, .string bo, .string bn, .slice A T.length c] 49)).trans (hb1.mono (by simp)))
  have hz1' := hb1.size
  simp only [World.size_alloc] at hz1'
  have hzz : w.heap.size < w1.heap.size := by omega
  have HA1 := Lib.hid (HA.out.keep hbw.out)
  have HBX := Lib.hid hbox
  clear hbox hb1 HR
  go_wp2_with fail
  have hst : RowKit.Below w1.heap.size w1 w1.drew ∧ (∀ o, w1.drew.cell? ⟨w.heap.size, o, none⟩ = (#[.int .i64 k, .string ao, .string an, .string bo, .string bn, .slice A T.length c] : Array Value)[o]?) := ⟨(Below.refl _ _).drew, HBX.out⟩
  go_region_held3 (fun w' => RowKit.Below w1.heap.size w1 w' ∧ (∀ o, w'.cell? ⟨w.heap.size, o, none⟩ = (#[.int .i64 k, .string ao, .string an, .string bo, .string bn, .slice A T.length c] : Array Value)[o]?))
    (first | with_reducible exact hst | with_reducible assumption | exact keepQ (by with_reducible assumption) hzz (by with_reducible assumption) | exact keepA (by with_reducible assumption) hzz)
    (first | (go_at_call 86; refine (HL'.out _).mono ?_; rintro e wz ⟨rfl, hgbz⟩) | (go_at_call 43; refine (HP.out _).mono ?_; rintro e wp ⟨rfl, hg⟩; have hgbp := hg.below; clear hg) | (go_at_call 87; refine (HW.out _).mono ?_; rintro e wb ⟨Ab, cb, rfl, hrb, hg⟩; have hgb2 := hg.below; clear hg) | (go_at_call 85; have q1 := chainP hgbz hgbp hgb2; have q2 := Nat.le_trans hzz q1.size; refine (concat3s wb _ rfl (some ⟨wp.heap.size, 0, none⟩) Ab A 2 cb c 2 (wordsL k).length T.length [bs ld, bs rl] (wordsL k) T ((srow_two wp ld rl).keep hgb2) hrb (HA1.out.keep q1) rfl rfl rfl L12.out.1 L12.out.2.1 L12.out.2.2).mono ?_; rintro e wd ⟨v4, rfl, hown4, hgb4⟩; have hownD := Lib.hid (own_more (B' := w.heap.size) hown4 (by rw [World.size_alloc]; omega)); clear hown4) | (go_at_call 85; have q1 := chainQ (o := .cells #[.string ld, .string rl] 9) hgbz hgbp hgb2; have q2 := Nat.le_trans hzz q1.size; refine (concat3s (wb.alloc (.cells #[.string ld, .string rl] 9)) _ (World.size_alloc _ _).symm (some ⟨wb.heap.size, 0, none⟩) Ab A 2 cb c 2 (wordsL k).length T.length [bs ld, bs rl] (wordsL k) T (srow_two wb ld rl) (hrb.keep ((Below.refl _ _).alloc (Nat.le_refl _) _)) (HA1.out.keep q1) rfl rfl rfl L12.out.1 L12.out.2.1 L12.out.2.2).mono ?_; rintro e wd ⟨v4, rfl, hown4, hgb4⟩; have hownD := Lib.hid (own_more (B' := w.heap.size) hown4 (by rw [World.size_alloc]; omega)); clear hown4))
  all_goals
    rename_i hHeld
    have hbd := Lib.hid (hbw.out.trans (hHeld.1.mono (by omega)))
    have c0 := hHeld.2 0
    have c3 := hHeld.2 3
    have c4 := hHeld.2 4
    simp only [List.getElem?_toArray, List.getElem?_cons_zero, List.getElem?_cons_succ] at c0 c3 c4
    have hzd : w.heap.size < wd.heap.size := Nat.lt_of_lt_of_le hzz hHeld.1.size
    have hown := hownD.out
    rw [← HTQ.out] at hown
    have htl : (textsQ ⟨k, ⟨ao, an⟩, ⟨bo, bn⟩, T⟩).length = 2 + (wordsL k).length + T.length := by rw [HTQ.out]; simp; omega
    generalize textsQ ⟨k, ⟨ao, an⟩, ⟨bo, bn⟩, T⟩ = TQ at *
    have tl0 : 0 < TQ.length := by omega
    have tl1 : TQ.length ≤ 16 := by omega
    obtain ⟨A4, c4', rfl, hc4, hr4⟩ := SRow.of_own hown
    have HO := Lib.hid hown
    have HR4 := Lib.hid hr4
    clear hHeld hownD hown hr4 hgbz hgbp hgb2 hgb4 q1 q2 hrb hst HBX HA1 HW HL' HTQ htl
    cases hbk : hasBk k
    · rw [hbk] at HB
      have HN := Lib.hid (hN.out hbk)
      clear hbk hN hY hB2
      go_wp2_with fail
      refine (HB.out _).mono ?_
      rintro e we ⟨rfl, m, rfl⟩
      go_wp2_with fail
      refine (joinS A4 c4' TQ _ tl0 (by omega) HTx.out hc4 ?row).mono ?_
      case row => exact HR4.out
      rintro e wf ⟨rfl, hbf⟩
      go_wp2_with fail
      go_ret
      exact ⟨by rw [← HN.out]; rfl, (below_drewN hbd.out m).trans (hbf.mono (by show w.heap.size ≤ wd.heap.size; omega))⟩
    · rw [hbk] at HB
      have HY := Lib.hid (hY.out hbk)
      have hok := hB2.out hbk
      have sb := SynL.ok_small (o := bo) (n := bn) hok
      have hrb8 := role_bs hok
      have HPB := Lib.hid (fun w' => SynL.printRole' bo bn w' sb.1 sb.2)
      have e8 : textR ⟨bo, bn⟩ = (bo ++ ⟨#[46]⟩ ++ bn : ByteArray) := rfl
      rw [e8] at hrb8 HY
      generalize (bo ++ ⟨#[46]⟩ ++ bn : ByteArray) = r2 at *
      have HS2 : Hid (∀ s ∈ TQ ++ [bs r2], s.length ≤ 1000) := Lib.hid (fun s hs => by
        rcases List.mem_append.1 hs with h | h
        · exact HTx.out s h
        · have : s = bs r2 := by simpa using h
          rw [this]; exact hrb8)
      have hbs := Lib.hid (bs_of r2)
      clear hbk hN hY hB2 hok sb e8 hrb8
      go_wp2_with fail
      refine (HB.out _).mono ?_
      rintro e we ⟨rfl, m, rfl⟩
      go_wp2_with fail
      refine (HPB.out _).mono ?_
      rintro e wf ⟨rfl, hgf⟩
      have hbf := Lib.hid ((below_drewN hbd.out m).trans (hgf.below.mono (by show w.heap.size ≤ wd.heap.size; omega)))
      have hzf := hgf.below.size
      have hzf' : wd.heap.size ≤ wf.heap.size := hzf
      have hof := Lib.hid ((Tab3.own_keep (show (wd.drewN m).ownsRow w.heap.size 9 1 (.slice A4 TQ.length c4') TQ.length (TQ.map encStr) from HO.out) hgf.below).alloc (.cells #[.string r2] 9))
      have hnw := Lib.hid (new_one wf (.string r2) 9)
      clear hgf hzf
      go_wp2_with (at_builtin; refine wpList_append_from _ rfl _ _ 33 rfl w.heap.size 9 i0 (.string ⟨#[]⟩) 1 16 Tryz.underlying33 hi hz0 hz1 hz2 rfl (by decide) _ TQ.length (TQ.map encStr) rfl hof.out (some ⟨wf.heap.size, 0, none⟩) 1 1 [.string r2] rfl rfl (fun h => by cases h) hnw.out (by intro u hu; simp at hu; subst hu; rfl) (by unfold maxLen; omega) (by omega) (by simp; omega) ?_)
      intro v5 w5 hown5 hgrow5
      have hb5 := Lib.hid ((hbf.out.alloc hbf.out.size _).grown hgrow5 (by simp; omega) (fun q hq => (hof.out.lt q hq).1))
      have hl5 : TQ.length + 1 = (TQ ++ [bs r2]).length := by simp
      have hm5 : TQ.map encStr ++ [.string r2] = (TQ ++ [bs r2]).map encStr := by
        rw [List.map_append]
        show _ = TQ.map encStr ++ [.string ⟨(bs r2).toArray⟩]
        rw [← hbs.out]
      rw [hl5, hm5] at hown5
      obtain ⟨A5, c5, rfl, hc5, hr5⟩ := SRow.of_own hown5
      have HR5 := Lib.hid hr5
      have tl5 : (TQ ++ [bs r2]).length ≤ 1000 := by simp; omega
      have tl6 : 0 < (TQ ++ [bs r2]).length := by simp
      clear hown5 hgrow5 hl5 hm5 hr5 hof hnw
      generalize TQ ++ [bs r2] = TR at *
      go_wp2_with fail
      refine (joinS A5 c5 TR _ tl6 tl5 HS2.out hc5 ?row).mono ?_
      case row => exact HR5.out
      rintro e wg ⟨rfl, hbg⟩
      go_wp2_with fail
      go_ret
      exact ⟨by rw [← HY.out]; rfl, hb5.out.trans (hbg.mono hb5.out.size)⟩
theorem print (q : Qy) (A : Option Addr) (c : Nat) (w : World) (hf : q.fit) (hA : SRow w A q.who) : Calls Tryz.prog 44 #[q.val A c] w (LinePost q w) := by
  obtain ⟨k, ⟨ao, an⟩, ⟨bo, bn⟩, T⟩ := q
  cases h : Qy.right ⟨k, ⟨ao, an⟩, ⟨bo, bn⟩, T⟩
  · exact print_no k ao an bo bn A c T w hf h hA
  · exact print_yes k ao an bo bn A c T w h hA
end Go.Proofs.YtkmpbkgmdfeicaaGreat.QryI
