/- The lines of statements, in the program and in the document's answers. -/
import Derived.Test.YtnhjnimgjpgfcaaM07
import Derived.Test.YtnhjnimgjpgfcaaM06
import Derived.Deep.QuietTactic
import Derived.BigQuiet
import Derived.Deep.CutBlock
import Derived.Deep.LoopGhost
import Derived.Test.YtnhjnimgjpgfcaaM05
import Derived.Test.YtnhjnimgjpgfcaaM02
import Derived.Test.YtnhjnimgjpgfcaaM01
import Derived.WalkLawsBesides
import Derived.WalkSpells
import Derived.Test.YtnhjnimgjpgfcaaShelf
import Derived.Laws.AppendOwn
import Derived.OwnWalk
import Derived.Lib.Builder
import Derived.WalkSmall
namespace Go.Proofs.Ytnhjnimgjpgfcaa.Syn9
set_option linter.unusedVariables false
set_option linter.unusedSimpArgs false
open Go.RowKit Go.Sort Go.Proofs Go.Proofs.Ytnhjnimgjpgfcaa.Plain Go.Proofs.Ytnhjnimgjpgfcaa.SynP Go.Proofs.Ytnhjnimgjpgfcaa.Named Go.Proofs.Ytnhjnimgjpgfcaa.RefN Go.Proofs.Ytnhjnimgjpgfcaa.Grown Go.Proofs.Ytnhjnimgjpgfcaa.Syn1 Go.Proofs.Ytnhjnimgjpgfcaa.Syn2 Go.Proofs.Ytnhjnimgjpgfcaa.Syn3 Go.Proofs.Ytnhjnimgjpgfcaa.Syn4 Go.Proofs.Ytnhjnimgjpgfcaa.Syn5 Go.Proofs.Ytnhjnimgjpgfcaa.SynE Go.Proofs.Ytnhjnimgjpgfcaa.Syn7 Go.Proofs.Ytnhjnimgjpgfcaa.Syn8
set_option linter.unusedSimpArgs false
set_option linter.unusedVariables false
theorem right_iff (k : Int) (ho hn wh ao an bo bn v : ByteArray) (h : Rl.ok ⟨ho, hn⟩ = true) : St.right ⟨k, ⟨ho, hn⟩, wh, ⟨ao, an⟩, ⟨bo, bn⟩, v⟩ = (St.says ⟨k, ⟨ho, hn⟩, wh, ⟨ao, an⟩, ⟨bo, bn⟩, v⟩ && decide ((⟨k, ⟨ho, hn⟩, wh, ⟨ao, an⟩, ⟨bo, bn⟩, v⟩ : St) = St.own ⟨k, ⟨ho, hn⟩, wh, ⟨ao, an⟩, ⟨bo, bn⟩, v⟩)) := by
  unfold St.right; simp only [h, Bool.true_and]
theorem rightRef (s : St) (w : World) (hf : s.fit) : Calls Try.prog 32 #[s.val] w fun e w' => e = .returned (.bool s.right) ∧ Grew w w' := by
  obtain ⟨k1, ⟨ho, hn⟩, wh, ⟨ao, an⟩, ⟨bo, bn⟩, v⟩ := s
  cases h1 : Rl.ok ⟨ho, hn⟩
  · refine (ref_head k1 ho hn wh ao an bo bn v w hf.1.1 hf.1.2 h1).mono ?_
    rintro e w' ⟨rfl, hg⟩
    exact ⟨ret_bool (by unfold St.right; simp only [h1]; rfl), hg⟩
  rcases kinds k1 with rfl | rfl | rfl | rfl | hk
  · refine (ref_1 ho hn wh ao an bo bn v w hf h1).mono ?_
    rintro e w' ⟨rfl, hg⟩
    refine ⟨ret_bool ?_, hg⟩
    rw [right_iff _ _ _ _ _ _ _ _ _ h1]
    simp only [St.says, St.own, zeroR]
    simp
    try (rw [Bool.eq_iff_iff]; simp; try grind)
  · refine (ref_2 ho hn wh ao an bo bn v w hf h1).mono ?_
    rintro e w' ⟨rfl, hg⟩
    refine ⟨ret_bool ?_, hg⟩
    rw [right_iff _ _ _ _ _ _ _ _ _ h1]
    simp only [St.says, St.own, zeroR]
    simp
    try (rw [Bool.eq_iff_iff]; simp; try grind)
  · refine (ref_3 ho hn wh ao an bo bn v w hf h1).mono ?_
    rintro e w' ⟨rfl, hg⟩
    refine ⟨ret_bool ?_, hg⟩
    rw [right_iff _ _ _ _ _ _ _ _ _ h1]
    simp only [St.says, St.own, zeroR]
    simp
    try (rw [Bool.eq_iff_iff]; simp; try grind)
  · refine (ref_4 ho hn wh ao an bo bn v w hf h1).mono ?_
    rintro e w' ⟨rfl, hg⟩
    refine ⟨ret_bool ?_, hg⟩
    rw [right_iff _ _ _ _ _ _ _ _ _ h1]
    simp only [St.says, St.own, zeroR]
    simp
    try (rw [Bool.eq_iff_iff]; simp; try grind)
  · refine (ref_5 k1 ho hn wh ao an bo bn v w hf.1.1 hf.1.2 h1 (by omega)).mono ?_
    rintro e w' ⟨rfl, hg⟩
    refine ⟨ret_bool ?_, hg⟩
    rw [right_iff _ _ _ _ _ _ _ _ _ h1]
    simp only [St.says, if_neg hk.1, if_neg hk.2.1, if_neg hk.2.2.1, if_neg hk.2.2.2, Bool.false_and]
end Go.Proofs.Ytnhjnimgjpgfcaa.Syn9
/- The document's Place, Role and Rule, by contract. -/
namespace Go.Proofs.Ytnhjnimgjpgfcaa.TblG
set_option linter.unusedVariables false
set_option linter.unusedSimpArgs false
open Go.RowKit Go.Sort Go.Lib Go.Proofs Go.Proofs.Ytnhjnimgjpgfcaa.Plain Go.Proofs.Ytnhjnimgjpgfcaa.SynP Go.Proofs.Ytnhjnimgjpgfcaa.TabP Go.Proofs.Ytnhjnimgjpgfcaa.Tab1 Go.Proofs.Ytnhjnimgjpgfcaa.Tab2 Go.Proofs.Ytnhjnimgjpgfcaa.RolK Go.Proofs.Ytnhjnimgjpgfcaa.TblA Go.Proofs.Ytnhjnimgjpgfcaa.TblB Go.Proofs.Ytnhjnimgjpgfcaa.TblC
set_option linter.unusedVariables false
set_option linter.unusedSimpArgs false
theorem findI_first {T : List Str} {s : Str} {k : Nat} (h : k < T.length) (e : T[k] = s) (hn : ∀ j, j < k → (hj : j < T.length) → T[j] ≠ s) : findI T s = k := by
  have hm : s ∈ T := e ▸ List.getElem_mem h
  unfold findI
  rw [if_pos hm]
  have h1 := List.idxOf_lt_length_of_mem hm
  have h2 : T[T.idxOf s] = s := List.getElem_idxOf h1
  rcases Nat.lt_trichotomy (T.idxOf s) k with hlt | heq | hgt
  · exact absurd h2 (hn _ hlt h1)
  · rw [heq]
  · have := List.not_of_lt_findIdx (p := (· == s)) (xs := T) (i := k) (by simpa [List.idxOf] using hgt)
    simp [e] at this
section
set_option maxRecDepth 100000
theorem place (A : Option Addr) (c : Nat) (T : List Str) (s : ByteArray) (w : World) (hL : T.length ≤ 1000000) (hA : SRow w A T) :
    Calls Try.prog 38 #[.slice A T.length c, .string s] w fun e w' => e = .returned (.int .i64 (findI T s.toList)) ∧ w = w' := by
  have HF := Lib.hid (fun k h e hn => findI_first (T := T) (s := s.toList) (k := k) h e hn)
  have HM := Lib.hid (fun h => findI_miss (T := T) (s := s.toList) h)
  have HA := Lib.hid hA
  clear hA
  go_enter Try.func38, Try.ntmps38
  go_wp2_with fail
  go_loop [9] (fun i => ∃ k : Nat, k ≤ T.length ∧ i = .int .i64 k ∧ Hid (∀ j, j < k → (hj : j < T.length) → T[j] ≠ s.toList)) (fun i => T.length - (intOf i).toNat)
  case atStart => exact ⟨0, by omega, rfl, Lib.hid (fun j hj => by omega)⟩
  case round =>
    obtain ⟨k, hk, rfl, hall⟩ := hrel
    by_cases hlt : k < T.length
    · obtain ⟨g, o, rfl, hg, hc⟩ := HA.out (by omega)
      have a0 := hc k hlt
      have p1 : (0 : Int) ≤ k := by omega
      have p2 : (k : Int) < T.length := by omega
      clear hc
      by_cases he : T[k] = s.toList
      · have hfin := Lib.hid (HF.out k hlt he hall.out)
        have hq : ((⟨T[k].toArray⟩ : ByteArray).toList == s.toList) = true := by
          rw [Go.ByteArray.toList_eq]; simpa using he
        clear hall he
        generalize (⟨T[k].toArray⟩ : ByteArray) = x at *
        go_wp2_with fail
        go_ret
        exact ⟨ret_int hfin.out.symm, rfl⟩
      · have hnext : Hid (∀ j, j < k + 1 → (hj : j < T.length) → T[j] ≠ s.toList) := Lib.hid (fun j hj h => by
          by_cases e : j = k
          · subst e; exact he
          · exact hall.out j (by omega) h)
        have hq : ((⟨T[k].toArray⟩ : ByteArray).toList == s.toList) = false := by
          rw [Go.ByteArray.toList_eq]; simpa using he
        clear hall he
        generalize (⟨T[k].toArray⟩ : ByteArray) = x at *
        go_wp2_with fail
        go_round
        case rel => exact ⟨k + 1, by omega, by go_num, hnext⟩
        case measure => simp [intOf]; omega
    · have hfin := Lib.hid (HM.out (fun hm => by
        obtain ⟨j, hj, e⟩ := List.getElem_of_mem hm
        exact hall.out j (by omega) hj e))
      clear hall
      go_wp2_with fail
      go_ret
      exact ⟨ret_int hfin.out.symm, rfl⟩
set_option maxHeartbeats 1000000 in
theorem roleRef (A B : Option Addr) (ca cb : Nat) (P L : List Str) (r : Rl) (w : World) (hP : P.length ≤ 100000) (hL : L.length ≤ 100000) (hA : SRow w A P) (hB : SRow w B L) :
    Calls Try.prog 14 #[.slice A P.length ca, .slice B L.length cb, r.val] w fun e w' => e = .returned (.int .i64 (roleI P L r)) ∧ RowKit.Below w.heap.size w w' := by
  have b1 := findI_bd P r.owner.toList
  have b2 := findI_bd L r.name.toList
  have H3 : Hid (∀ w', RowKit.Below w.heap.size w w' → Calls Try.prog 38 #[.slice A P.length ca, .string r.owner] w' fun e w'' => e = .returned (.int .i64 (findI P r.owner.toList)) ∧ w' = w'') := Lib.hid (fun w' hb => place A ca P r.owner w' (by omega) (hA.keep hb))
  have H4 : Hid (∀ w', RowKit.Below w.heap.size w w' → Calls Try.prog 38 #[.slice B L.length cb, .string r.name] w' fun e w'' => e = .returned (.int .i64 (findI L r.name.toList)) ∧ w' = w'') := Lib.hid (fun w' hb => place B cb L r.name w' (by omega) (hB.keep hb))
  obtain ⟨ro, rn⟩ := r
  obtain ⟨v, hv⟩ : ∃ v, roleI P L ⟨ro, rn⟩ = v := ⟨_, rfl⟩
  rw [hv]
  unfold roleI at hv
  unfold Rl.val
  simp only at *
  generalize findI P ro.toList = x at *
  generalize findI L rn.toList = y at *
  generalize P.length = n1 at *
  generalize L.length = n2 at *
  have HV := Lib.hid hv
  clear hA hB hv
  have hX := (Below.refl w.heap.size w).alloc (Nat.le_refl _) (.cells #[.string ro, .string rn] 24)
  generalize hW6 : w.alloc (.cells #[.string ro, .string rn] 24) = w6 at hX
  have hz6 : w6.heap.size = w.heap.size + 1 := by rw [← hW6]; simp
  have u1 : ∀ o, w6.drew.cell? ⟨w.heap.size, o, none⟩ = (#[.string ro, .string rn] : Array Value)[o]? := fun o => by
    show w6.cell? _ = _
    rw [← hW6]; exact Lib.cell_of_heap (heap_alloc_new w _) o
  have hz7 : w.heap.size < w6.heap.size := by omega
  have hst : RowKit.Below w6.heap.size w6 w6.drew ∧ (∀ o, w6.drew.cell? ⟨w.heap.size, o, none⟩ = (#[.string ro, .string rn] : Array Value)[o]?) := ⟨(Below.refl _ _).drew, u1⟩
  have HX := Lib.hid (fun w' (hb : RowKit.Below w6.heap.size w6 w') => hX.trans (hb.mono (by omega)))
  clear u1 hX
  go_enter Try.func14, Try.ntmps14
  go_wp2_with fail
  try rw [hW6]
  go_region_held3 (fun w' => RowKit.Below w6.heap.size w6 w' ∧ (∀ o, w'.cell? ⟨w.heap.size, o, none⟩ = (#[.string ro, .string rn] : Array Value)[o]?))
    (first | with_reducible exact hst | with_reducible assumption | exact keepB (by with_reducible assumption) hz7 (by with_reducible assumption))
    (first | ((with_reducible refine (H3.out _ (HX.out _ (by apply And.left; with_reducible assumption))).mono ?_); rintro e w' ⟨rfl, rfl⟩) | ((with_reducible refine (H4.out _ (HX.out _ (by apply And.left; with_reducible assumption))).mono ?_); rintro e w' ⟨rfl, rfl⟩))
  rename_i hHeld
  have HB1 := Lib.hid (HX.out _ hHeld.1)
  clear hHeld hst
  by_cases hx : x < 0
  · have hv := HV.out
    rw [if_pos (Or.inl hx)] at hv
    subst hv
    go_wp2_with fail
    go_ret
    exact ⟨rfl, HB1.out⟩
  · by_cases hy : y < 0
    · have hv := HV.out
      rw [if_pos (Or.inr hy)] at hv
      subst hv
      go_wp2_with fail
      go_ret
      exact ⟨rfl, HB1.out⟩
    · have hv := HV.out
      rw [if_neg (by omega)] at hv
      obtain ⟨x', rfl⟩ : ∃ q : Nat, x = q := ⟨x.toNat, by omega⟩
      obtain ⟨y', rfl⟩ : ∃ q : Nat, y = q := ⟨y.toNat, by omega⟩
      have hq : x' * n2 ≤ 10000000000 := Nat.mul_le_mul (show x' ≤ 100000 by omega) hL
      have hw : wrap64 (wrap64 ((x' : Int) * (n2 : Int)) + (y' : Int)) = v := by
        rw [← hv, ← Int.natCast_mul]; unfold wrap64; omega
      have HW := Lib.hid hw
      clear hv hw hq
      go_wp2_with fail
      go_ret
      exact ⟨ret_int HW.out, HB1.out⟩
end
end Go.Proofs.Ytnhjnimgjpgfcaa.TblG
/- The document's Rule, by contract. -/
namespace Go.Proofs.Ytnhjnimgjpgfcaa.TblH
set_option linter.unusedVariables false
set_option linter.unusedSimpArgs false
open Go.RowKit Go.Sort Go.Lib Go.Proofs Go.Proofs.Ytnhjnimgjpgfcaa.Plain Go.Proofs.Ytnhjnimgjpgfcaa.SynP Go.Proofs.Ytnhjnimgjpgfcaa.Grown Go.Proofs.Ytnhjnimgjpgfcaa.TabP Go.Proofs.Ytnhjnimgjpgfcaa.Tab1 Go.Proofs.Ytnhjnimgjpgfcaa.Tab2 Go.Proofs.Ytnhjnimgjpgfcaa.RolK Go.Proofs.Ytnhjnimgjpgfcaa.TblA Go.Proofs.Ytnhjnimgjpgfcaa.TblB Go.Proofs.Ytnhjnimgjpgfcaa.TblC Go.Proofs.Ytnhjnimgjpgfcaa.TblF Go.Proofs.Ytnhjnimgjpgfcaa.TblG
set_option linter.unusedVariables false
set_option linter.unusedSimpArgs false
section
variable {P L : List Str}
set_option maxRecDepth 100000
set_option maxHeartbeats 1000000 in
theorem ref_no (A B : Option Addr) (ca cb n1 n2 : Nat) (w : World) (s : St) (hf : s.fit) (hs : s.right = false) :
    Calls Try.prog 12 #[.slice A n1 ca, .slice B n2 cb, s.val] w (RulePost false zeroU w) := by
  have HR : Hid (∀ w', Calls Try.prog 32 #[s.val] w' fun e w'' => e = .returned (.bool false) ∧ RowKit.Below w'.heap.size w' w'') := Lib.hid (fun w' => (Syn9.rightRef s w' hf).mono fun e w'' h => ⟨by rw [h.1, hs], h.2.below⟩)
  obtain ⟨k, ⟨ho', hn⟩, wh, ⟨ao, an⟩, ⟨bo, bn⟩, v⟩ := s
  unfold St.val at *
  simp only at *
  clear hf hs
  go_enter Try.func12, Try.ntmps12
  go_wp2_with fail
  refine (HR.out _).mono ?_
  rintro e w1 ⟨rfl, hb⟩
  have h4 : w1.heap[w.heap.size + 1]? = some (.cells zeroU.cells 34 (0, 0)) := (hb.block _ (by simp <;> omega)).trans (heap_alloc2_new w _ _)
  have hbel : RowKit.Below w.heap.size w w1 := (((Below.refl w.heap.size w).alloc (Nat.le_refl _) _).alloc (by simp) _).trans (hb.mono (by simp <;> omega))
  have H4 := Lib.hid h4
  have HB := Lib.hid hbel
  clear h4 hbel hb
  go_wp2_with (refine wpList_store_row rfl 34 _ _ rfl (w.heap.size + 1) zeroU.cells rfl rfl 34 _ H4.out infoRule rfl (one6 _) ?_)
  have hl := cell_rule (u := zeroU) H4.out
  have hz := below_setRow HB.out (show w.heap.size ≤ w.heap.size + 1 by omega) zeroU.cells
  generalize World.setRow _ (w.heap.size + 1) zeroU.cells = wz at hl hz ⊢
  refine bodyPost_ret (v := .tuple #[.agg zeroU.cells, .bool false]) (by simp [results, Try.results12, go_sem, hl, Ru.cells]) rfl ⟨rfl, hz⟩
/-- What the rest of the document's Rule starts from. -/
structure Mid (w wx : World) (N : Nat) (k : Int) (ho' hn wh ao an bo bn v : ByteArray) (u : Ru) : Prop where
  below : RowKit.Below w.heap.size w wx
  box : wx.heap[w.heap.size]? = some (.cells #[.int .i64 k, .string ho', .string hn, .string wh, .string ao, .string an, .string bo, .string bn, .string v] 26 (0, 0))
  out : wx.heap[w.heap.size + 1]? = some (.cells zeroU.cells 34 (0, 0))
  at_ : RuAt wx N u
  far : w.heap.size + 2 ≤ N
theorem Mid.keep {w wx w' : World} {N : Nat} {k : Int} {ho' hn wh ao an bo bn v : ByteArray} {u : Ru} (h : Mid w wx N k ho' hn wh ao an bo bn v u) (hb : RowKit.Below wx.heap.size wx w') : Mid w w' N k ho' hn wh ao an bo bn v u :=
  ⟨h.below.trans (hb.mono h.below.size), (hb.block _ (Array.getElem?_eq_some_iff.1 h.box).1).trans h.box, (hb.block _ (Array.getElem?_eq_some_iff.1 h.out).1).trans h.out, h.at_.below hb, h.far⟩
theorem Mid.put {w wx : World} {N : Nat} {k : Int} {ho' hn wh ao an bo bn v : ByteArray} {u : Ru} (h : Mid w wx N k ho' hn wh ao an bo bn v u) (o : Nat) (h1 : 1 ≤ o) (h5 : o ≤ 5) (x : Int) : Mid w (wx.setCell ⟨N, o, none⟩ (.int .i64 x)) N k ho' hn wh ao an bo bn v (u.set o x) := by
  have hf := h.far
  exact ⟨h.below.setCell (by show w.heap.size ≤ N; omega) _, (Below.heap_setCell _ _ _ _ (by show w.heap.size ≠ N; omega)).trans h.box, (Below.heap_setCell _ _ _ _ (by show w.heap.size + 1 ≠ N; omega)).trans h.out, h.at_.put o h1 h5 x, h.far⟩
theorem Mid.put0 {w wx : World} {N : Nat} {k : Int} {ho' hn wh ao an bo bn v : ByteArray} {u : Ru} (h : Mid w wx N k ho' hn wh ao an bo bn v u) (x : Int) : Mid w (wx.setCell ⟨N, 0, none⟩ (.int .i64 x)) N k ho' hn wh ao an bo bn v { u with kind := x } := by
  have hf := h.far
  refine ⟨h.below.setCell (by show w.heap.size ≤ N; omega) _, (Below.heap_setCell _ _ _ _ (by show w.heap.size ≠ N; omega)).trans h.box, (Below.heap_setCell _ _ _ _ (by show w.heap.size + 1 ≠ N; omega)).trans h.out, ?_, h.far⟩
  unfold RuAt
  rw [heap_setCell_same _ _ _ _ _ _ h.at_]
  rfl
theorem mid_a {w w1 w2 : World} {k x : Int} {ho' hn wh ao an bo bn v : ByteArray} (HB : RowKit.Below w.heap.size w w1)
    (HX : w1.heap[w.heap.size]? = some (.cells #[.int .i64 k, .string ho', .string hn, .string wh, .string ao, .string an, .string bo, .string bn, .string v] 26 (0, 0)))
    (H4 : w1.heap[w.heap.size + 1]? = some (.cells zeroU.cells 34 (0, 0))) (hlt : w.heap.size + 2 ≤ w1.heap.size) (hb : RowKit.Below w1.drew.heap.size w1.drew w2) :
    Mid w (w2.alloc (.cells #[.int .i64 k, .int .i64 x, .int .i64 0, .int .i64 0, .int .i64 0, .int .i64 0] 34)) w2.heap.size k ho' hn wh ao an bo bn v ⟨k, x, 0, 0, 0, 0⟩ := by
  have hb' : RowKit.Below w1.heap.size w1 w2 := ⟨hb.os, hb.tape, hb.output, hb.size, fun k hk => hb.block k hk⟩
  have hz := hb'.size
  refine ⟨(HB.trans (hb'.mono HB.size)).alloc (by omega) _, ?_, ?_, heap_alloc_new w2 _, by omega⟩
  · exact (Below.heap_alloc _ _ _ (by omega)).trans ((hb'.block _ (by omega)).trans HX)
  · exact (Below.heap_alloc _ _ _ (by omega)).trans ((hb'.block _ (by omega)).trans H4)
theorem mid_b {w w1 w2 : World} {k x : Int} {ho' hn wh ao an bo bn v : ByteArray} (HB : RowKit.Below w.heap.size w w1)
    (HX : w1.heap[w.heap.size]? = some (.cells #[.int .i64 k, .string ho', .string hn, .string wh, .string ao, .string an, .string bo, .string bn, .string v] 26 (0, 0)))
    (H4 : w1.heap[w.heap.size + 1]? = some (.cells zeroU.cells 34 (0, 0))) (hlt : w.heap.size + 2 ≤ w1.heap.size)
    (hb : RowKit.Below (w1.alloc (.cells #[.int .i64 0, .int .i64 0, .int .i64 0, .int .i64 0, .int .i64 0, .int .i64 0] 34)).drew.heap.size (w1.alloc (.cells #[.int .i64 0, .int .i64 0, .int .i64 0, .int .i64 0, .int .i64 0, .int .i64 0] 34)).drew w2) :
    Mid w ((((((w2.setCell ⟨w1.heap.size, 0, none⟩ (.int .i64 k)).setCell ⟨w1.heap.size, 1, none⟩ (.int .i64 x)).setCell ⟨w1.heap.size, 2, none⟩ (.int .i64 0)).setCell ⟨w1.heap.size, 3, none⟩ (.int .i64 0)).setCell ⟨w1.heap.size, 4, none⟩ (.int .i64 0)).setCell ⟨w1.heap.size, 5, none⟩ (.int .i64 0)) w1.heap.size k ho' hn wh ao an bo bn v ⟨k, x, 0, 0, 0, 0⟩ := by
  have hb' : RowKit.Below (w1.alloc (.cells #[.int .i64 0, .int .i64 0, .int .i64 0, .int .i64 0, .int .i64 0, .int .i64 0] 34)).heap.size (w1.alloc (.cells #[.int .i64 0, .int .i64 0, .int .i64 0, .int .i64 0, .int .i64 0, .int .i64 0] 34)) w2 := ⟨hb.os, hb.tape, hb.output, hb.size, fun k hk => hb.block k hk⟩
  have hz := hb'.size
  simp only [World.size_alloc] at hz
  have h0 : Mid w w2 w1.heap.size k ho' hn wh ao an bo bn v zeroU :=
    ⟨(HB.alloc HB.size _).trans (hb'.mono (by simp; omega)), (hb'.block _ (by simp; omega)).trans ((Below.heap_alloc _ _ _ (by omega)).trans HX), (hb'.block _ (by simp; omega)).trans ((Below.heap_alloc _ _ _ (by omega)).trans H4), (hb'.block _ (by simp)).trans (heap_alloc_new w1 _), by omega⟩
  exact (((((h0.put0 k).put 1 (by omega) (by omega) x).put 2 (by omega) (by omega) 0).put 3 (by omega) (by omega) 0).put 4 (by omega) (by omega) 0).put 5 (by omega) (by omega) 0
set_option maxHeartbeats 4000000 in
theorem ref_yes (A B : Option Addr) (ca cb : Nat) (w : World) (hP : P.length ≤ 100000) (hL : L.length ≤ 100000) (hA : SRow w A P) (hB : SRow w B L) (s : St) (hf : s.fit) (hs : s.right = true) :
    Calls Try.prog 12 #[.slice A P.length ca, .slice B L.length cb, s.val] w (RulePost (ruleOk P L s) (ruleA P L s) w) := by
  have HR : Hid (∀ w', Calls Try.prog 32 #[s.val] w' fun e w'' => e = .returned (.bool true) ∧ RowKit.Below w'.heap.size w' w'') := Lib.hid (fun w' => (Syn9.rightRef s w' hf).mono fun e w'' h => ⟨by rw [h.1, hs], h.2.below⟩)
  have HRo := Lib.hid (fun w' (hb : RowKit.Below w.heap.size w w') (r : Rl) => roleRef A B ca cb P L r w' hP hL (hA.keep hb) (hB.keep hb))
  have HPl := Lib.hid (fun w' (hb : RowKit.Below w.heap.size w w') (x : ByteArray) => place A ca P x w' (by omega) (hA.keep hb))
  have HPk := Lib.hid (fun w' (hb : RowKit.Below w.heap.size w w') (x : ByteArray) => place B cb L x w' (by omega) (hB.keep hb))
  have HK := Lib.hid (kind_of_right hs)
  obtain ⟨k, ⟨ho', hn⟩, wh, ⟨ao, an⟩, ⟨bo, bn⟩, v⟩ := s
  have HRH := Lib.hid (fun w' hb => HRo.out w' hb ⟨ho', hn⟩)
  have HRA := Lib.hid (fun w' hb => HRo.out w' hb ⟨ao, an⟩)
  have HRB := Lib.hid (fun w' hb => HRo.out w' hb ⟨bo, bn⟩)
  have HPW := Lib.hid (fun w' hb => HPl.out w' hb wh)
  have HPV := Lib.hid (fun w' hb => HPk.out w' hb v)
  have hres : ∃ ok u, ruleOk P L ⟨k, ⟨ho', hn⟩, wh, ⟨ao, an⟩, ⟨bo, bn⟩, v⟩ = ok ∧ ruleA P L ⟨k, ⟨ho', hn⟩, wh, ⟨ao, an⟩, ⟨bo, bn⟩, v⟩ = u := ⟨_, _, rfl, rfl⟩
  obtain ⟨ok, uA, hok, huA⟩ := hres
  rw [hok, huA]
  unfold ruleA ruleV at huA
  rw [hok] at huA
  unfold ruleOk restOk at hok
  rw [hs, Bool.true_and] at hok
  unfold St.val Rl.val at *
  simp only at *
  generalize roleI P L ⟨ho', hn⟩ = x0 at *
  generalize roleI P L ⟨ao, an⟩ = x1 at *
  generalize roleI P L ⟨bo, bn⟩ = x2 at *
  generalize findI P wh.toList = x3 at *
  generalize findI L v.toList = x4 at *
  have HOK := Lib.hid hok
  have HUA := Lib.hid huA
  clear hok huA hf hs HRo HPl HPk hA hB
  go_enter Try.func12, Try.ntmps12
  go_wp2_with fail
  refine (HR.out _).mono ?_
  rintro e w1 ⟨rfl, hb⟩
  have hbx : w1.heap[w.heap.size]? = some (.cells #[.int .i64 k, .string ho', .string hn, .string wh, .string ao, .string an, .string bo, .string bn, .string v] 26 (0, 0)) := (hb.block _ (by simp <;> omega)).trans (heap_alloc2_old w _ _)
  have h4 : w1.heap[w.heap.size + 1]? = some (.cells zeroU.cells 34 (0, 0)) := (hb.block _ (by simp <;> omega)).trans (heap_alloc2_new w _ _)
  have hbel : RowKit.Below w.heap.size w w1 := (((Below.refl w.heap.size w).alloc (Nat.le_refl _) _).alloc (by simp) _).trans (hb.mono (by simp <;> omega))
  have hlt1 : w.heap.size + 2 ≤ w1.heap.size := by have := hb.size; simp at this; omega
  have H4 := Lib.hid h4
  have HBX := Lib.hid hbx
  have HB := Lib.hid hbel
  have hc : ∀ o, w1.cell? ⟨w.heap.size, o, none⟩ = (#[.int .i64 k, .string ho', .string hn, .string wh, .string ao, .string an, .string bo, .string bn, .string v] : Array Value)[o]? := fun o => Lib.cell_of_heap hbx o
  clear h4 hbel hb hbx
  go_upto_region 3 with fail
  go_cut [8] from 14 to 83 (fun p wx => ∃ N, p = .pointer (some ⟨N, 0, none⟩) ∧ Mid w wx N k ho' hn wh ao an bo bn v ⟨k, x0, 0, 0, 0, 0⟩)
  case first =>
    have hlt2 : w.heap.size < w1.heap.size := by omega
    have B1 := Lib.hid HB.out.drew
    have B2 := Lib.hid (fun o => (HB.out.alloc HB.out.size o).drew)
    have HZ : Hid (∀ w2 : World, RowKit.Below (w1.alloc (.cells #[.int .i64 0, .int .i64 0, .int .i64 0, .int .i64 0, .int .i64 0, .int .i64 0] 34)).drew.heap.size (w1.alloc (.cells #[.int .i64 0, .int .i64 0, .int .i64 0, .int .i64 0, .int .i64 0, .int .i64 0] 34)).drew w2 → w2.heap[w1.heap.size]? = some (.cells zeroU.cells 34 (0, 0)) ∧ (∀ o, w2.cell? ⟨w1.heap.size, o, none⟩ = (#[.int .i64 0, .int .i64 0, .int .i64 0, .int .i64 0, .int .i64 0, .int .i64 0] : Array Value)[o]?) ∧ (∀ o, w2.frozen? ⟨w1.heap.size, o, none⟩ = false)) := Lib.hid (fun w2 hb => by
      have e : w2.heap[w1.heap.size]? = some (.cells zeroU.cells 34 (0, 0)) := (hb.block w1.heap.size (by show w1.heap.size < (w1.alloc _).heap.size; simp)).trans (heap_alloc_new w1 _)
      exact ⟨e, fun o => Lib.cell_of_heap e o, fun o => frozen_of_row _ _ _ _ _ e⟩)
    have hlt5 : Hid (w.heap.size < (w1.alloc (.cells #[.int .i64 0, .int .i64 0, .int .i64 0, .int .i64 0, .int .i64 0, .int .i64 0] 34)).drew.heap.size) := Lib.hid (by show w.heap.size < (w1.alloc _).heap.size; simp; omega)
    have C1 : Hid (∀ w2 : World, RowKit.Below w1.drew.heap.size w1.drew w2 → ∀ o, w2.cell? ⟨w.heap.size, o, none⟩ = (#[.int .i64 k, .string ho', .string hn, .string wh, .string ao, .string an, .string bo, .string bn, .string v] : Array Value)[o]?) := Lib.hid (fun w2 hb o => (hb.cell (p := ⟨w.heap.size, o, none⟩) hlt2).trans (Lib.cell_of_heap HBX.out o))
    have C2 : Hid (∀ w2 : World, RowKit.Below (w1.alloc (.cells #[.int .i64 0, .int .i64 0, .int .i64 0, .int .i64 0, .int .i64 0, .int .i64 0] 34)).drew.heap.size (w1.alloc (.cells #[.int .i64 0, .int .i64 0, .int .i64 0, .int .i64 0, .int .i64 0, .int .i64 0] 34)).drew w2 → ∀ o, w2.cell? ⟨w.heap.size, o, none⟩ = (#[.int .i64 k, .string ho', .string hn, .string wh, .string ao, .string an, .string bo, .string bn, .string v] : Array Value)[o]?) := Lib.hid (fun w2 hb o => (hb.cell (p := ⟨w.heap.size, o, none⟩) (by show w.heap.size < (w1.alloc _).heap.size; simp; omega)).trans (Lib.cell_of_heap ((Below.heap_alloc w1 _ _ hlt2).trans HBX.out) o))
    go_region_with (first | ((with_reducible refine (HRH.out _ B1.out).mono ?_); rintro e w2 ⟨rfl, hb2⟩; have hc2 := C1.out w2 hb2; have hlt4 := Nat.lt_of_lt_of_le hlt2 hb2.size) | ((with_reducible refine (HRH.out _ (B2.out _)).mono ?_); rintro e w2 ⟨rfl, hb2⟩; obtain ⟨z0, z1, z2⟩ := HZ.out w2 hb2; have hc2 := C2.out w2 hb2; have hlt4 := Nat.lt_of_lt_of_le hlt5.out hb2.size))
    all_goals (go_wp2_with fail; go_meet)
    all_goals (case rel => refine ⟨_, rfl, ?_⟩; first | with_reducible exact mid_a HB.out HBX.out H4.out hlt1 hb2 | with_reducible exact mid_b HB.out HBX.out H4.out hlt1 hb2)
  case rest =>
    obtain ⟨N, rfl, hmid⟩ := hcut
    have HM0 := Lib.hid hmid
    clear hmid HBX H4 HB hc hlt1 HRH HR
    rcases HK.out with rfl | rfl | rfl | rfl
    · have HO : Hid (ok = (decide (0 ≤ x0) && decide (0 ≤ x3))) := Lib.hid (by rw [← HOK.out]; rfl)
      have HU : Hid (uA = if ok then ⟨1, x0, x3, 0, 0, 0⟩ else zeroU) := Lib.hid (by rw [← HUA.out]; rfl)
      clear HK HOK HUA
      have c0 : ∀ o, wc.cell? ⟨w.heap.size, o, none⟩ = (#[.int .i64 1, .string ho', .string hn, .string wh, .string ao, .string an, .string bo, .string bn, .string v] : Array Value)[o]? := fun o => Lib.cell_of_heap HM0.out.box o
      have r0 : ∀ o, wc.cell? ⟨N, o, none⟩ = (#[.int .i64 1, .int .i64 x0, .int .i64 0, .int .i64 0, .int .i64 0, .int .i64 0] : Array Value)[o]? := fun o => RuAt.cell HM0.out.at_ o
      have f0 : ∀ o, wc.frozen? ⟨N, o, none⟩ = false := fun o => RuAt.free HM0.out.at_ o
      by_cases gx0 : 0 ≤ x0
      · have hx0 : decide (0 ≤ x0) = true := decide_eq_true gx0
        go_wp2_with fail
        refine (HPW.out _ HM0.out.below).mono ?_
        rintro e v1 ⟨rfl, hb1⟩
        have HN1 := Lib.hid (HM0.out.keep (w' := v1) (by rw [← hb1]; exact Below.refl _ _))
        clear hb1 c0 r0 f0
        have c10 : ∀ o, v1.cell? ⟨w.heap.size, o, none⟩ = (#[.int .i64 1, .string ho', .string hn, .string wh, .string ao, .string an, .string bo, .string bn, .string v] : Array Value)[o]? := fun o => Lib.cell_of_heap HN1.out.box o
        have r10 : ∀ o, v1.cell? ⟨N, o, none⟩ = (#[.int .i64 1, .int .i64 x0, .int .i64 0, .int .i64 0, .int .i64 0, .int .i64 0] : Array Value)[o]? := fun o => RuAt.cell HN1.out.at_ o
        have f10 : ∀ o, v1.frozen? ⟨N, o, none⟩ = false := fun o => RuAt.free HN1.out.at_ o
        go_upto_region 7 with fail
        have HM1 : Hid (Mid w (v1.setCell ⟨N, 2, none⟩ (.int .i64 x3)) N 1 ho' hn wh ao an bo bn v ⟨1, x0, x3, 0, 0, 0⟩) := Lib.hid (HN1.out.put 2 (by omega) (by omega) x3)
        generalize v1.setCell ⟨N, 2, none⟩ (.int .i64 x3) = z1 at HM1 ⊢
        clear c10 r10 f10
        have c1 : ∀ o, z1.cell? ⟨w.heap.size, o, none⟩ = (#[.int .i64 1, .string ho', .string hn, .string wh, .string ao, .string an, .string bo, .string bn, .string v] : Array Value)[o]? := fun o => Lib.cell_of_heap HM1.out.box o
        have r1 : ∀ o, z1.cell? ⟨N, o, none⟩ = (#[.int .i64 1, .int .i64 x0, .int .i64 x3, .int .i64 0, .int .i64 0, .int .i64 0] : Array Value)[o]? := fun o => RuAt.cell HM1.out.at_ o
        have f1 : ∀ o, z1.frozen? ⟨N, o, none⟩ = false := fun o => RuAt.free HM1.out.at_ o
        by_cases gx3 : 0 ≤ x3
        · have hx3 : decide (0 ≤ x3) = true := decide_eq_true gx3
          obtain rfl : ok = true := by rw [HO.out]; simp only [hx0, hx3]; rfl
          obtain rfl : uA = ⟨1, x0, x3, 0, 0, 0⟩ := by rw [HU.out]; rfl
          clear HO HU
          go_wp2_with (first | (refine wpList_load_row rfl 34 _ rfl N rfl 34 (⟨1, x0, x3, 0, 0, 0⟩ : Ru).cells (0, 0) _ HM1.out.at_ Try.underlying34 rfl infoRule ?_) | (refine wpList_store_row rfl 34 _ _ rfl (w.heap.size + 1) (⟨1, x0, x3, 0, 0, 0⟩ : Ru).cells rfl rfl 34 _ HM1.out.out infoRule rfl (one6 _) ?_))
          have hl := cell_rule (u := (⟨1, x0, x3, 0, 0, 0⟩ : Ru)) HM1.out.out
          have hz := below_setRow HM1.out.below (show w.heap.size ≤ w.heap.size + 1 by omega) (⟨1, x0, x3, 0, 0, 0⟩ : Ru).cells
          generalize World.setRow _ (w.heap.size + 1) (⟨1, x0, x3, 0, 0, 0⟩ : Ru).cells = wz at hl hz ⊢
          refine bodyPost_ret (v := .tuple #[.agg (⟨1, x0, x3, 0, 0, 0⟩ : Ru).cells, .bool true]) (by simp [results, Try.results12, go_sem, hl, Ru.cells]) rfl ⟨rfl, hz⟩
        · have hx3 : decide (0 ≤ x3) = false := decide_eq_false gx3
          obtain rfl : ok = false := by rw [HO.out]; simp [hx0, hx3]
          obtain rfl : uA = zeroU := by rw [HU.out]; rfl
          clear HO HU
          go_wp2_with (refine wpList_store_row rfl 34 _ _ rfl (w.heap.size + 1) zeroU.cells rfl rfl 34 _ HM1.out.out infoRule rfl (one6 _) ?_)
          have hl := cell_rule (u := zeroU) HM1.out.out
          have hz := below_setRow HM1.out.below (show w.heap.size ≤ w.heap.size + 1 by omega) zeroU.cells
          generalize World.setRow _ (w.heap.size + 1) zeroU.cells = wz at hl hz ⊢
          refine bodyPost_ret (v := .tuple #[.agg zeroU.cells, .bool false]) (by simp [results, Try.results12, go_sem, hl, Ru.cells]) rfl ⟨rfl, hz⟩
      · have hx0 : decide (0 ≤ x0) = false := decide_eq_false gx0
        go_wp2_with fail
        refine (HPW.out _ HM0.out.below).mono ?_
        rintro e v1 ⟨rfl, hb1⟩
        have HN1 := Lib.hid (HM0.out.keep (w' := v1) (by rw [← hb1]; exact Below.refl _ _))
        clear hb1 c0 r0 f0
        have c10 : ∀ o, v1.cell? ⟨w.heap.size, o, none⟩ = (#[.int .i64 1, .string ho', .string hn, .string wh, .string ao, .string an, .string bo, .string bn, .string v] : Array Value)[o]? := fun o => Lib.cell_of_heap HN1.out.box o
        have r10 : ∀ o, v1.cell? ⟨N, o, none⟩ = (#[.int .i64 1, .int .i64 x0, .int .i64 0, .int .i64 0, .int .i64 0, .int .i64 0] : Array Value)[o]? := fun o => RuAt.cell HN1.out.at_ o
        have f10 : ∀ o, v1.frozen? ⟨N, o, none⟩ = false := fun o => RuAt.free HN1.out.at_ o
        go_upto_region 7 with fail
        have HM1 : Hid (Mid w (v1.setCell ⟨N, 2, none⟩ (.int .i64 x3)) N 1 ho' hn wh ao an bo bn v ⟨1, x0, x3, 0, 0, 0⟩) := Lib.hid (HN1.out.put 2 (by omega) (by omega) x3)
        generalize v1.setCell ⟨N, 2, none⟩ (.int .i64 x3) = z1 at HM1 ⊢
        clear c10 r10 f10
        have c1 : ∀ o, z1.cell? ⟨w.heap.size, o, none⟩ = (#[.int .i64 1, .string ho', .string hn, .string wh, .string ao, .string an, .string bo, .string bn, .string v] : Array Value)[o]? := fun o => Lib.cell_of_heap HM1.out.box o
        have r1 : ∀ o, z1.cell? ⟨N, o, none⟩ = (#[.int .i64 1, .int .i64 x0, .int .i64 x3, .int .i64 0, .int .i64 0, .int .i64 0] : Array Value)[o]? := fun o => RuAt.cell HM1.out.at_ o
        have f1 : ∀ o, z1.frozen? ⟨N, o, none⟩ = false := fun o => RuAt.free HM1.out.at_ o
        obtain rfl : ok = false := by rw [HO.out]; simp [hx0]
        obtain rfl : uA = zeroU := by rw [HU.out]; rfl
        clear HO HU
        go_wp2_with (refine wpList_store_row rfl 34 _ _ rfl (w.heap.size + 1) zeroU.cells rfl rfl 34 _ HM1.out.out infoRule rfl (one6 _) ?_)
        have hl := cell_rule (u := zeroU) HM1.out.out
        have hz := below_setRow HM1.out.below (show w.heap.size ≤ w.heap.size + 1 by omega) zeroU.cells
        generalize World.setRow _ (w.heap.size + 1) zeroU.cells = wz at hl hz ⊢
        refine bodyPost_ret (v := .tuple #[.agg zeroU.cells, .bool false]) (by simp [results, Try.results12, go_sem, hl, Ru.cells]) rfl ⟨rfl, hz⟩
    · have HO : Hid (ok = (decide (0 ≤ x0) && decide (0 ≤ x1))) := Lib.hid (by rw [← HOK.out]; rfl)
      have HU : Hid (uA = if ok then ⟨2, x0, 0, x1, 0, 0⟩ else zeroU) := Lib.hid (by rw [← HUA.out]; rfl)
      clear HK HOK HUA
      have c0 : ∀ o, wc.cell? ⟨w.heap.size, o, none⟩ = (#[.int .i64 2, .string ho', .string hn, .string wh, .string ao, .string an, .string bo, .string bn, .string v] : Array Value)[o]? := fun o => Lib.cell_of_heap HM0.out.box o
      have r0 : ∀ o, wc.cell? ⟨N, o, none⟩ = (#[.int .i64 2, .int .i64 x0, .int .i64 0, .int .i64 0, .int .i64 0, .int .i64 0] : Array Value)[o]? := fun o => RuAt.cell HM0.out.at_ o
      have f0 : ∀ o, wc.frozen? ⟨N, o, none⟩ = false := fun o => RuAt.free HM0.out.at_ o
      by_cases gx0 : 0 ≤ x0
      · have hx0 : decide (0 ≤ x0) = true := decide_eq_true gx0
        go_wp2_with fail
        refine (HRA.out _ HM0.out.below).mono ?_
        rintro e v1 ⟨rfl, hb1⟩
        have HN1 := Lib.hid (HM0.out.keep (w' := v1) hb1)
        clear hb1 c0 r0 f0
        have c10 : ∀ o, v1.cell? ⟨w.heap.size, o, none⟩ = (#[.int .i64 2, .string ho', .string hn, .string wh, .string ao, .string an, .string bo, .string bn, .string v] : Array Value)[o]? := fun o => Lib.cell_of_heap HN1.out.box o
        have r10 : ∀ o, v1.cell? ⟨N, o, none⟩ = (#[.int .i64 2, .int .i64 x0, .int .i64 0, .int .i64 0, .int .i64 0, .int .i64 0] : Array Value)[o]? := fun o => RuAt.cell HN1.out.at_ o
        have f10 : ∀ o, v1.frozen? ⟨N, o, none⟩ = false := fun o => RuAt.free HN1.out.at_ o
        go_upto_region 9 with fail
        have HM1 : Hid (Mid w (v1.setCell ⟨N, 3, none⟩ (.int .i64 x1)) N 2 ho' hn wh ao an bo bn v ⟨2, x0, 0, x1, 0, 0⟩) := Lib.hid (HN1.out.put 3 (by omega) (by omega) x1)
        generalize v1.setCell ⟨N, 3, none⟩ (.int .i64 x1) = z1 at HM1 ⊢
        clear c10 r10 f10
        have c1 : ∀ o, z1.cell? ⟨w.heap.size, o, none⟩ = (#[.int .i64 2, .string ho', .string hn, .string wh, .string ao, .string an, .string bo, .string bn, .string v] : Array Value)[o]? := fun o => Lib.cell_of_heap HM1.out.box o
        have r1 : ∀ o, z1.cell? ⟨N, o, none⟩ = (#[.int .i64 2, .int .i64 x0, .int .i64 0, .int .i64 x1, .int .i64 0, .int .i64 0] : Array Value)[o]? := fun o => RuAt.cell HM1.out.at_ o
        have f1 : ∀ o, z1.frozen? ⟨N, o, none⟩ = false := fun o => RuAt.free HM1.out.at_ o
        by_cases gx1 : 0 ≤ x1
        · have hx1 : decide (0 ≤ x1) = true := decide_eq_true gx1
          obtain rfl : ok = true := by rw [HO.out]; simp only [hx0, hx1]; rfl
          obtain rfl : uA = ⟨2, x0, 0, x1, 0, 0⟩ := by rw [HU.out]; rfl
          clear HO HU
          go_wp2_with (first | (refine wpList_load_row rfl 34 _ rfl N rfl 34 (⟨2, x0, 0, x1, 0, 0⟩ : Ru).cells (0, 0) _ HM1.out.at_ Try.underlying34 rfl infoRule ?_) | (refine wpList_store_row rfl 34 _ _ rfl (w.heap.size + 1) (⟨2, x0, 0, x1, 0, 0⟩ : Ru).cells rfl rfl 34 _ HM1.out.out infoRule rfl (one6 _) ?_))
          have hl := cell_rule (u := (⟨2, x0, 0, x1, 0, 0⟩ : Ru)) HM1.out.out
          have hz := below_setRow HM1.out.below (show w.heap.size ≤ w.heap.size + 1 by omega) (⟨2, x0, 0, x1, 0, 0⟩ : Ru).cells
          generalize World.setRow _ (w.heap.size + 1) (⟨2, x0, 0, x1, 0, 0⟩ : Ru).cells = wz at hl hz ⊢
          refine bodyPost_ret (v := .tuple #[.agg (⟨2, x0, 0, x1, 0, 0⟩ : Ru).cells, .bool true]) (by simp [results, Try.results12, go_sem, hl, Ru.cells]) rfl ⟨rfl, hz⟩
        · have hx1 : decide (0 ≤ x1) = false := decide_eq_false gx1
          obtain rfl : ok = false := by rw [HO.out]; simp [hx0, hx1]
          obtain rfl : uA = zeroU := by rw [HU.out]; rfl
          clear HO HU
          go_wp2_with (refine wpList_store_row rfl 34 _ _ rfl (w.heap.size + 1) zeroU.cells rfl rfl 34 _ HM1.out.out infoRule rfl (one6 _) ?_)
          have hl := cell_rule (u := zeroU) HM1.out.out
          have hz := below_setRow HM1.out.below (show w.heap.size ≤ w.heap.size + 1 by omega) zeroU.cells
          generalize World.setRow _ (w.heap.size + 1) zeroU.cells = wz at hl hz ⊢
          refine bodyPost_ret (v := .tuple #[.agg zeroU.cells, .bool false]) (by simp [results, Try.results12, go_sem, hl, Ru.cells]) rfl ⟨rfl, hz⟩
      · have hx0 : decide (0 ≤ x0) = false := decide_eq_false gx0
        go_wp2_with fail
        refine (HRA.out _ HM0.out.below).mono ?_
        rintro e v1 ⟨rfl, hb1⟩
        have HN1 := Lib.hid (HM0.out.keep (w' := v1) hb1)
        clear hb1 c0 r0 f0
        have c10 : ∀ o, v1.cell? ⟨w.heap.size, o, none⟩ = (#[.int .i64 2, .string ho', .string hn, .string wh, .string ao, .string an, .string bo, .string bn, .string v] : Array Value)[o]? := fun o => Lib.cell_of_heap HN1.out.box o
        have r10 : ∀ o, v1.cell? ⟨N, o, none⟩ = (#[.int .i64 2, .int .i64 x0, .int .i64 0, .int .i64 0, .int .i64 0, .int .i64 0] : Array Value)[o]? := fun o => RuAt.cell HN1.out.at_ o
        have f10 : ∀ o, v1.frozen? ⟨N, o, none⟩ = false := fun o => RuAt.free HN1.out.at_ o
        go_upto_region 9 with fail
        have HM1 : Hid (Mid w (v1.setCell ⟨N, 3, none⟩ (.int .i64 x1)) N 2 ho' hn wh ao an bo bn v ⟨2, x0, 0, x1, 0, 0⟩) := Lib.hid (HN1.out.put 3 (by omega) (by omega) x1)
        generalize v1.setCell ⟨N, 3, none⟩ (.int .i64 x1) = z1 at HM1 ⊢
        clear c10 r10 f10
        have c1 : ∀ o, z1.cell? ⟨w.heap.size, o, none⟩ = (#[.int .i64 2, .string ho', .string hn, .string wh, .string ao, .string an, .string bo, .string bn, .string v] : Array Value)[o]? := fun o => Lib.cell_of_heap HM1.out.box o
        have r1 : ∀ o, z1.cell? ⟨N, o, none⟩ = (#[.int .i64 2, .int .i64 x0, .int .i64 0, .int .i64 x1, .int .i64 0, .int .i64 0] : Array Value)[o]? := fun o => RuAt.cell HM1.out.at_ o
        have f1 : ∀ o, z1.frozen? ⟨N, o, none⟩ = false := fun o => RuAt.free HM1.out.at_ o
        obtain rfl : ok = false := by rw [HO.out]; simp [hx0]
        obtain rfl : uA = zeroU := by rw [HU.out]; rfl
        clear HO HU
        go_wp2_with (refine wpList_store_row rfl 34 _ _ rfl (w.heap.size + 1) zeroU.cells rfl rfl 34 _ HM1.out.out infoRule rfl (one6 _) ?_)
        have hl := cell_rule (u := zeroU) HM1.out.out
        have hz := below_setRow HM1.out.below (show w.heap.size ≤ w.heap.size + 1 by omega) zeroU.cells
        generalize World.setRow _ (w.heap.size + 1) zeroU.cells = wz at hl hz ⊢
        refine bodyPost_ret (v := .tuple #[.agg zeroU.cells, .bool false]) (by simp [results, Try.results12, go_sem, hl, Ru.cells]) rfl ⟨rfl, hz⟩
    · have HO : Hid (ok = (decide (0 ≤ x0) && (decide (0 ≤ x4) && decide (0 ≤ x1)))) := Lib.hid (by rw [← HOK.out]; rfl)
      have HU : Hid (uA = if ok then ⟨3, x0, 0, x1, 0, x4⟩ else zeroU) := Lib.hid (by rw [← HUA.out]; rfl)
      clear HK HOK HUA
      have c0 : ∀ o, wc.cell? ⟨w.heap.size, o, none⟩ = (#[.int .i64 3, .string ho', .string hn, .string wh, .string ao, .string an, .string bo, .string bn, .string v] : Array Value)[o]? := fun o => Lib.cell_of_heap HM0.out.box o
      have r0 : ∀ o, wc.cell? ⟨N, o, none⟩ = (#[.int .i64 3, .int .i64 x0, .int .i64 0, .int .i64 0, .int .i64 0, .int .i64 0] : Array Value)[o]? := fun o => RuAt.cell HM0.out.at_ o
      have f0 : ∀ o, wc.frozen? ⟨N, o, none⟩ = false := fun o => RuAt.free HM0.out.at_ o
      by_cases gx0 : 0 ≤ x0
      · have hx0 : decide (0 ≤ x0) = true := decide_eq_true gx0
        go_wp2_with fail
        refine (HRA.out _ HM0.out.below).mono ?_
        rintro e v1 ⟨rfl, hb1⟩
        have HN1 := Lib.hid (HM0.out.keep (w' := v1) hb1)
        clear hb1 c0 r0 f0
        have c10 : ∀ o, v1.cell? ⟨w.heap.size, o, none⟩ = (#[.int .i64 3, .string ho', .string hn, .string wh, .string ao, .string an, .string bo, .string bn, .string v] : Array Value)[o]? := fun o => Lib.cell_of_heap HN1.out.box o
        have r10 : ∀ o, v1.cell? ⟨N, o, none⟩ = (#[.int .i64 3, .int .i64 x0, .int .i64 0, .int .i64 0, .int .i64 0, .int .i64 0] : Array Value)[o]? := fun o => RuAt.cell HN1.out.at_ o
        have f10 : ∀ o, v1.frozen? ⟨N, o, none⟩ = false := fun o => RuAt.free HN1.out.at_ o
        go_upto_region 9 with fail
        have HM1 : Hid (Mid w (v1.setCell ⟨N, 3, none⟩ (.int .i64 x1)) N 3 ho' hn wh ao an bo bn v ⟨3, x0, 0, x1, 0, 0⟩) := Lib.hid (HN1.out.put 3 (by omega) (by omega) x1)
        generalize v1.setCell ⟨N, 3, none⟩ (.int .i64 x1) = z1 at HM1 ⊢
        clear c10 r10 f10
        have c1 : ∀ o, z1.cell? ⟨w.heap.size, o, none⟩ = (#[.int .i64 3, .string ho', .string hn, .string wh, .string ao, .string an, .string bo, .string bn, .string v] : Array Value)[o]? := fun o => Lib.cell_of_heap HM1.out.box o
        have r1 : ∀ o, z1.cell? ⟨N, o, none⟩ = (#[.int .i64 3, .int .i64 x0, .int .i64 0, .int .i64 x1, .int .i64 0, .int .i64 0] : Array Value)[o]? := fun o => RuAt.cell HM1.out.at_ o
        have f1 : ∀ o, z1.frozen? ⟨N, o, none⟩ = false := fun o => RuAt.free HM1.out.at_ o
        by_cases gx1 : 0 ≤ x1
        · have hx1 : decide (0 ≤ x1) = true := decide_eq_true gx1
          go_wp2_with fail
          refine (HPV.out _ HM1.out.below).mono ?_
          rintro e v2 ⟨rfl, hb2⟩
          have HN2 := Lib.hid (HM1.out.keep (w' := v2) (by rw [← hb2]; exact Below.refl _ _))
          clear hb2 c1 r1 f1
          have c20 : ∀ o, v2.cell? ⟨w.heap.size, o, none⟩ = (#[.int .i64 3, .string ho', .string hn, .string wh, .string ao, .string an, .string bo, .string bn, .string v] : Array Value)[o]? := fun o => Lib.cell_of_heap HN2.out.box o
          have r20 : ∀ o, v2.cell? ⟨N, o, none⟩ = (#[.int .i64 3, .int .i64 x0, .int .i64 0, .int .i64 x1, .int .i64 0, .int .i64 0] : Array Value)[o]? := fun o => RuAt.cell HN2.out.at_ o
          have f20 : ∀ o, v2.frozen? ⟨N, o, none⟩ = false := fun o => RuAt.free HN2.out.at_ o
          go_upto_region 12 with fail
          have HM2 : Hid (Mid w (v2.setCell ⟨N, 5, none⟩ (.int .i64 x4)) N 3 ho' hn wh ao an bo bn v ⟨3, x0, 0, x1, 0, x4⟩) := Lib.hid (HN2.out.put 5 (by omega) (by omega) x4)
          generalize v2.setCell ⟨N, 5, none⟩ (.int .i64 x4) = z2 at HM2 ⊢
          clear c20 r20 f20
          have c2 : ∀ o, z2.cell? ⟨w.heap.size, o, none⟩ = (#[.int .i64 3, .string ho', .string hn, .string wh, .string ao, .string an, .string bo, .string bn, .string v] : Array Value)[o]? := fun o => Lib.cell_of_heap HM2.out.box o
          have r2 : ∀ o, z2.cell? ⟨N, o, none⟩ = (#[.int .i64 3, .int .i64 x0, .int .i64 0, .int .i64 x1, .int .i64 0, .int .i64 x4] : Array Value)[o]? := fun o => RuAt.cell HM2.out.at_ o
          have f2 : ∀ o, z2.frozen? ⟨N, o, none⟩ = false := fun o => RuAt.free HM2.out.at_ o
          by_cases gx4 : 0 ≤ x4
          · have hx4 : decide (0 ≤ x4) = true := decide_eq_true gx4
            obtain rfl : ok = true := by rw [HO.out]; simp only [hx0, hx1, hx4]; rfl
            obtain rfl : uA = ⟨3, x0, 0, x1, 0, x4⟩ := by rw [HU.out]; rfl
            clear HO HU
            go_wp2_with (first | (refine wpList_load_row rfl 34 _ rfl N rfl 34 (⟨3, x0, 0, x1, 0, x4⟩ : Ru).cells (0, 0) _ HM2.out.at_ Try.underlying34 rfl infoRule ?_) | (refine wpList_store_row rfl 34 _ _ rfl (w.heap.size + 1) (⟨3, x0, 0, x1, 0, x4⟩ : Ru).cells rfl rfl 34 _ HM2.out.out infoRule rfl (one6 _) ?_))
            have hl := cell_rule (u := (⟨3, x0, 0, x1, 0, x4⟩ : Ru)) HM2.out.out
            have hz := below_setRow HM2.out.below (show w.heap.size ≤ w.heap.size + 1 by omega) (⟨3, x0, 0, x1, 0, x4⟩ : Ru).cells
            generalize World.setRow _ (w.heap.size + 1) (⟨3, x0, 0, x1, 0, x4⟩ : Ru).cells = wz at hl hz ⊢
            refine bodyPost_ret (v := .tuple #[.agg (⟨3, x0, 0, x1, 0, x4⟩ : Ru).cells, .bool true]) (by simp [results, Try.results12, go_sem, hl, Ru.cells]) rfl ⟨rfl, hz⟩
          · have hx4 : decide (0 ≤ x4) = false := decide_eq_false gx4
            obtain rfl : ok = false := by rw [HO.out]; simp [hx0, hx1, hx4]
            obtain rfl : uA = zeroU := by rw [HU.out]; rfl
            clear HO HU
            go_wp2_with (refine wpList_store_row rfl 34 _ _ rfl (w.heap.size + 1) zeroU.cells rfl rfl 34 _ HM2.out.out infoRule rfl (one6 _) ?_)
            have hl := cell_rule (u := zeroU) HM2.out.out
            have hz := below_setRow HM2.out.below (show w.heap.size ≤ w.heap.size + 1 by omega) zeroU.cells
            generalize World.setRow _ (w.heap.size + 1) zeroU.cells = wz at hl hz ⊢
            refine bodyPost_ret (v := .tuple #[.agg zeroU.cells, .bool false]) (by simp [results, Try.results12, go_sem, hl, Ru.cells]) rfl ⟨rfl, hz⟩
        · have hx1 : decide (0 ≤ x1) = false := decide_eq_false gx1
          go_wp2_with fail
          refine (HPV.out _ HM1.out.below).mono ?_
          rintro e v2 ⟨rfl, hb2⟩
          have HN2 := Lib.hid (HM1.out.keep (w' := v2) (by rw [← hb2]; exact Below.refl _ _))
          clear hb2 c1 r1 f1
          have c20 : ∀ o, v2.cell? ⟨w.heap.size, o, none⟩ = (#[.int .i64 3, .string ho', .string hn, .string wh, .string ao, .string an, .string bo, .string bn, .string v] : Array Value)[o]? := fun o => Lib.cell_of_heap HN2.out.box o
          have r20 : ∀ o, v2.cell? ⟨N, o, none⟩ = (#[.int .i64 3, .int .i64 x0, .int .i64 0, .int .i64 x1, .int .i64 0, .int .i64 0] : Array Value)[o]? := fun o => RuAt.cell HN2.out.at_ o
          have f20 : ∀ o, v2.frozen? ⟨N, o, none⟩ = false := fun o => RuAt.free HN2.out.at_ o
          go_upto_region 12 with fail
          have HM2 : Hid (Mid w (v2.setCell ⟨N, 5, none⟩ (.int .i64 x4)) N 3 ho' hn wh ao an bo bn v ⟨3, x0, 0, x1, 0, x4⟩) := Lib.hid (HN2.out.put 5 (by omega) (by omega) x4)
          generalize v2.setCell ⟨N, 5, none⟩ (.int .i64 x4) = z2 at HM2 ⊢
          clear c20 r20 f20
          have c2 : ∀ o, z2.cell? ⟨w.heap.size, o, none⟩ = (#[.int .i64 3, .string ho', .string hn, .string wh, .string ao, .string an, .string bo, .string bn, .string v] : Array Value)[o]? := fun o => Lib.cell_of_heap HM2.out.box o
          have r2 : ∀ o, z2.cell? ⟨N, o, none⟩ = (#[.int .i64 3, .int .i64 x0, .int .i64 0, .int .i64 x1, .int .i64 0, .int .i64 x4] : Array Value)[o]? := fun o => RuAt.cell HM2.out.at_ o
          have f2 : ∀ o, z2.frozen? ⟨N, o, none⟩ = false := fun o => RuAt.free HM2.out.at_ o
          obtain rfl : ok = false := by rw [HO.out]; simp [hx0, hx1]
          obtain rfl : uA = zeroU := by rw [HU.out]; rfl
          clear HO HU
          go_wp2_with (refine wpList_store_row rfl 34 _ _ rfl (w.heap.size + 1) zeroU.cells rfl rfl 34 _ HM2.out.out infoRule rfl (one6 _) ?_)
          have hl := cell_rule (u := zeroU) HM2.out.out
          have hz := below_setRow HM2.out.below (show w.heap.size ≤ w.heap.size + 1 by omega) zeroU.cells
          generalize World.setRow _ (w.heap.size + 1) zeroU.cells = wz at hl hz ⊢
          refine bodyPost_ret (v := .tuple #[.agg zeroU.cells, .bool false]) (by simp [results, Try.results12, go_sem, hl, Ru.cells]) rfl ⟨rfl, hz⟩
      · have hx0 : decide (0 ≤ x0) = false := decide_eq_false gx0
        go_wp2_with fail
        refine (HRA.out _ HM0.out.below).mono ?_
        rintro e v1 ⟨rfl, hb1⟩
        have HN1 := Lib.hid (HM0.out.keep (w' := v1) hb1)
        clear hb1 c0 r0 f0
        have c10 : ∀ o, v1.cell? ⟨w.heap.size, o, none⟩ = (#[.int .i64 3, .string ho', .string hn, .string wh, .string ao, .string an, .string bo, .string bn, .string v] : Array Value)[o]? := fun o => Lib.cell_of_heap HN1.out.box o
        have r10 : ∀ o, v1.cell? ⟨N, o, none⟩ = (#[.int .i64 3, .int .i64 x0, .int .i64 0, .int .i64 0, .int .i64 0, .int .i64 0] : Array Value)[o]? := fun o => RuAt.cell HN1.out.at_ o
        have f10 : ∀ o, v1.frozen? ⟨N, o, none⟩ = false := fun o => RuAt.free HN1.out.at_ o
        go_upto_region 9 with fail
        have HM1 : Hid (Mid w (v1.setCell ⟨N, 3, none⟩ (.int .i64 x1)) N 3 ho' hn wh ao an bo bn v ⟨3, x0, 0, x1, 0, 0⟩) := Lib.hid (HN1.out.put 3 (by omega) (by omega) x1)
        generalize v1.setCell ⟨N, 3, none⟩ (.int .i64 x1) = z1 at HM1 ⊢
        clear c10 r10 f10
        have c1 : ∀ o, z1.cell? ⟨w.heap.size, o, none⟩ = (#[.int .i64 3, .string ho', .string hn, .string wh, .string ao, .string an, .string bo, .string bn, .string v] : Array Value)[o]? := fun o => Lib.cell_of_heap HM1.out.box o
        have r1 : ∀ o, z1.cell? ⟨N, o, none⟩ = (#[.int .i64 3, .int .i64 x0, .int .i64 0, .int .i64 x1, .int .i64 0, .int .i64 0] : Array Value)[o]? := fun o => RuAt.cell HM1.out.at_ o
        have f1 : ∀ o, z1.frozen? ⟨N, o, none⟩ = false := fun o => RuAt.free HM1.out.at_ o
        go_wp2_with fail
        refine (HPV.out _ HM1.out.below).mono ?_
        rintro e v2 ⟨rfl, hb2⟩
        have HN2 := Lib.hid (HM1.out.keep (w' := v2) (by rw [← hb2]; exact Below.refl _ _))
        clear hb2 c1 r1 f1
        have c20 : ∀ o, v2.cell? ⟨w.heap.size, o, none⟩ = (#[.int .i64 3, .string ho', .string hn, .string wh, .string ao, .string an, .string bo, .string bn, .string v] : Array Value)[o]? := fun o => Lib.cell_of_heap HN2.out.box o
        have r20 : ∀ o, v2.cell? ⟨N, o, none⟩ = (#[.int .i64 3, .int .i64 x0, .int .i64 0, .int .i64 x1, .int .i64 0, .int .i64 0] : Array Value)[o]? := fun o => RuAt.cell HN2.out.at_ o
        have f20 : ∀ o, v2.frozen? ⟨N, o, none⟩ = false := fun o => RuAt.free HN2.out.at_ o
        go_upto_region 12 with fail
        have HM2 : Hid (Mid w (v2.setCell ⟨N, 5, none⟩ (.int .i64 x4)) N 3 ho' hn wh ao an bo bn v ⟨3, x0, 0, x1, 0, x4⟩) := Lib.hid (HN2.out.put 5 (by omega) (by omega) x4)
        generalize v2.setCell ⟨N, 5, none⟩ (.int .i64 x4) = z2 at HM2 ⊢
        clear c20 r20 f20
        have c2 : ∀ o, z2.cell? ⟨w.heap.size, o, none⟩ = (#[.int .i64 3, .string ho', .string hn, .string wh, .string ao, .string an, .string bo, .string bn, .string v] : Array Value)[o]? := fun o => Lib.cell_of_heap HM2.out.box o
        have r2 : ∀ o, z2.cell? ⟨N, o, none⟩ = (#[.int .i64 3, .int .i64 x0, .int .i64 0, .int .i64 x1, .int .i64 0, .int .i64 x4] : Array Value)[o]? := fun o => RuAt.cell HM2.out.at_ o
        have f2 : ∀ o, z2.frozen? ⟨N, o, none⟩ = false := fun o => RuAt.free HM2.out.at_ o
        obtain rfl : ok = false := by rw [HO.out]; simp [hx0]
        obtain rfl : uA = zeroU := by rw [HU.out]; rfl
        clear HO HU
        go_wp2_with (refine wpList_store_row rfl 34 _ _ rfl (w.heap.size + 1) zeroU.cells rfl rfl 34 _ HM2.out.out infoRule rfl (one6 _) ?_)
        have hl := cell_rule (u := zeroU) HM2.out.out
        have hz := below_setRow HM2.out.below (show w.heap.size ≤ w.heap.size + 1 by omega) zeroU.cells
        generalize World.setRow _ (w.heap.size + 1) zeroU.cells = wz at hl hz ⊢
        refine bodyPost_ret (v := .tuple #[.agg zeroU.cells, .bool false]) (by simp [results, Try.results12, go_sem, hl, Ru.cells]) rfl ⟨rfl, hz⟩
    · have HO : Hid (ok = (decide (0 ≤ x0) && (decide (0 ≤ x1) && decide (0 ≤ x2)))) := Lib.hid (by rw [← HOK.out]; rfl)
      have HU : Hid (uA = if ok then ⟨4, x0, 0, x1, x2, 0⟩ else zeroU) := Lib.hid (by rw [← HUA.out]; rfl)
      clear HK HOK HUA
      have c0 : ∀ o, wc.cell? ⟨w.heap.size, o, none⟩ = (#[.int .i64 4, .string ho', .string hn, .string wh, .string ao, .string an, .string bo, .string bn, .string v] : Array Value)[o]? := fun o => Lib.cell_of_heap HM0.out.box o
      have r0 : ∀ o, wc.cell? ⟨N, o, none⟩ = (#[.int .i64 4, .int .i64 x0, .int .i64 0, .int .i64 0, .int .i64 0, .int .i64 0] : Array Value)[o]? := fun o => RuAt.cell HM0.out.at_ o
      have f0 : ∀ o, wc.frozen? ⟨N, o, none⟩ = false := fun o => RuAt.free HM0.out.at_ o
      by_cases gx0 : 0 ≤ x0
      · have hx0 : decide (0 ≤ x0) = true := decide_eq_true gx0
        go_wp2_with fail
        refine (HRA.out _ HM0.out.below).mono ?_
        rintro e v1 ⟨rfl, hb1⟩
        have HN1 := Lib.hid (HM0.out.keep (w' := v1) hb1)
        clear hb1 c0 r0 f0
        have c10 : ∀ o, v1.cell? ⟨w.heap.size, o, none⟩ = (#[.int .i64 4, .string ho', .string hn, .string wh, .string ao, .string an, .string bo, .string bn, .string v] : Array Value)[o]? := fun o => Lib.cell_of_heap HN1.out.box o
        have r10 : ∀ o, v1.cell? ⟨N, o, none⟩ = (#[.int .i64 4, .int .i64 x0, .int .i64 0, .int .i64 0, .int .i64 0, .int .i64 0] : Array Value)[o]? := fun o => RuAt.cell HN1.out.at_ o
        have f10 : ∀ o, v1.frozen? ⟨N, o, none⟩ = false := fun o => RuAt.free HN1.out.at_ o
        go_upto_region 9 with fail
        have HM1 : Hid (Mid w (v1.setCell ⟨N, 3, none⟩ (.int .i64 x1)) N 4 ho' hn wh ao an bo bn v ⟨4, x0, 0, x1, 0, 0⟩) := Lib.hid (HN1.out.put 3 (by omega) (by omega) x1)
        generalize v1.setCell ⟨N, 3, none⟩ (.int .i64 x1) = z1 at HM1 ⊢
        clear c10 r10 f10
        have c1 : ∀ o, z1.cell? ⟨w.heap.size, o, none⟩ = (#[.int .i64 4, .string ho', .string hn, .string wh, .string ao, .string an, .string bo, .string bn, .string v] : Array Value)[o]? := fun o => Lib.cell_of_heap HM1.out.box o
        have r1 : ∀ o, z1.cell? ⟨N, o, none⟩ = (#[.int .i64 4, .int .i64 x0, .int .i64 0, .int .i64 x1, .int .i64 0, .int .i64 0] : Array Value)[o]? := fun o => RuAt.cell HM1.out.at_ o
        have f1 : ∀ o, z1.frozen? ⟨N, o, none⟩ = false := fun o => RuAt.free HM1.out.at_ o
        by_cases gx1 : 0 ≤ x1
        · have hx1 : decide (0 ≤ x1) = true := decide_eq_true gx1
          go_wp2_with fail
          refine (HRB.out _ HM1.out.below).mono ?_
          rintro e v2 ⟨rfl, hb2⟩
          have HN2 := Lib.hid (HM1.out.keep (w' := v2) hb2)
          clear hb2 c1 r1 f1
          have c20 : ∀ o, v2.cell? ⟨w.heap.size, o, none⟩ = (#[.int .i64 4, .string ho', .string hn, .string wh, .string ao, .string an, .string bo, .string bn, .string v] : Array Value)[o]? := fun o => Lib.cell_of_heap HN2.out.box o
          have r20 : ∀ o, v2.cell? ⟨N, o, none⟩ = (#[.int .i64 4, .int .i64 x0, .int .i64 0, .int .i64 x1, .int .i64 0, .int .i64 0] : Array Value)[o]? := fun o => RuAt.cell HN2.out.at_ o
          have f20 : ∀ o, v2.frozen? ⟨N, o, none⟩ = false := fun o => RuAt.free HN2.out.at_ o
          go_upto_region 15 with fail
          have HM2 : Hid (Mid w (v2.setCell ⟨N, 4, none⟩ (.int .i64 x2)) N 4 ho' hn wh ao an bo bn v ⟨4, x0, 0, x1, x2, 0⟩) := Lib.hid (HN2.out.put 4 (by omega) (by omega) x2)
          generalize v2.setCell ⟨N, 4, none⟩ (.int .i64 x2) = z2 at HM2 ⊢
          clear c20 r20 f20
          have c2 : ∀ o, z2.cell? ⟨w.heap.size, o, none⟩ = (#[.int .i64 4, .string ho', .string hn, .string wh, .string ao, .string an, .string bo, .string bn, .string v] : Array Value)[o]? := fun o => Lib.cell_of_heap HM2.out.box o
          have r2 : ∀ o, z2.cell? ⟨N, o, none⟩ = (#[.int .i64 4, .int .i64 x0, .int .i64 0, .int .i64 x1, .int .i64 x2, .int .i64 0] : Array Value)[o]? := fun o => RuAt.cell HM2.out.at_ o
          have f2 : ∀ o, z2.frozen? ⟨N, o, none⟩ = false := fun o => RuAt.free HM2.out.at_ o
          by_cases gx2 : 0 ≤ x2
          · have hx2 : decide (0 ≤ x2) = true := decide_eq_true gx2
            obtain rfl : ok = true := by rw [HO.out]; simp only [hx0, hx1, hx2]; rfl
            obtain rfl : uA = ⟨4, x0, 0, x1, x2, 0⟩ := by rw [HU.out]; rfl
            clear HO HU
            go_wp2_with (first | (refine wpList_load_row rfl 34 _ rfl N rfl 34 (⟨4, x0, 0, x1, x2, 0⟩ : Ru).cells (0, 0) _ HM2.out.at_ Try.underlying34 rfl infoRule ?_) | (refine wpList_store_row rfl 34 _ _ rfl (w.heap.size + 1) (⟨4, x0, 0, x1, x2, 0⟩ : Ru).cells rfl rfl 34 _ HM2.out.out infoRule rfl (one6 _) ?_))
            have hl := cell_rule (u := (⟨4, x0, 0, x1, x2, 0⟩ : Ru)) HM2.out.out
            have hz := below_setRow HM2.out.below (show w.heap.size ≤ w.heap.size + 1 by omega) (⟨4, x0, 0, x1, x2, 0⟩ : Ru).cells
            generalize World.setRow _ (w.heap.size + 1) (⟨4, x0, 0, x1, x2, 0⟩ : Ru).cells = wz at hl hz ⊢
            refine bodyPost_ret (v := .tuple #[.agg (⟨4, x0, 0, x1, x2, 0⟩ : Ru).cells, .bool true]) (by simp [results, Try.results12, go_sem, hl, Ru.cells]) rfl ⟨rfl, hz⟩
          · have hx2 : decide (0 ≤ x2) = false := decide_eq_false gx2
            obtain rfl : ok = false := by rw [HO.out]; simp [hx0, hx1, hx2]
            obtain rfl : uA = zeroU := by rw [HU.out]; rfl
            clear HO HU
            go_wp2_with (refine wpList_store_row rfl 34 _ _ rfl (w.heap.size + 1) zeroU.cells rfl rfl 34 _ HM2.out.out infoRule rfl (one6 _) ?_)
            have hl := cell_rule (u := zeroU) HM2.out.out
            have hz := below_setRow HM2.out.below (show w.heap.size ≤ w.heap.size + 1 by omega) zeroU.cells
            generalize World.setRow _ (w.heap.size + 1) zeroU.cells = wz at hl hz ⊢
            refine bodyPost_ret (v := .tuple #[.agg zeroU.cells, .bool false]) (by simp [results, Try.results12, go_sem, hl, Ru.cells]) rfl ⟨rfl, hz⟩
        · have hx1 : decide (0 ≤ x1) = false := decide_eq_false gx1
          go_wp2_with fail
          refine (HRB.out _ HM1.out.below).mono ?_
          rintro e v2 ⟨rfl, hb2⟩
          have HN2 := Lib.hid (HM1.out.keep (w' := v2) hb2)
          clear hb2 c1 r1 f1
          have c20 : ∀ o, v2.cell? ⟨w.heap.size, o, none⟩ = (#[.int .i64 4, .string ho', .string hn, .string wh, .string ao, .string an, .string bo, .string bn, .string v] : Array Value)[o]? := fun o => Lib.cell_of_heap HN2.out.box o
          have r20 : ∀ o, v2.cell? ⟨N, o, none⟩ = (#[.int .i64 4, .int .i64 x0, .int .i64 0, .int .i64 x1, .int .i64 0, .int .i64 0] : Array Value)[o]? := fun o => RuAt.cell HN2.out.at_ o
          have f20 : ∀ o, v2.frozen? ⟨N, o, none⟩ = false := fun o => RuAt.free HN2.out.at_ o
          go_upto_region 15 with fail
          have HM2 : Hid (Mid w (v2.setCell ⟨N, 4, none⟩ (.int .i64 x2)) N 4 ho' hn wh ao an bo bn v ⟨4, x0, 0, x1, x2, 0⟩) := Lib.hid (HN2.out.put 4 (by omega) (by omega) x2)
          generalize v2.setCell ⟨N, 4, none⟩ (.int .i64 x2) = z2 at HM2 ⊢
          clear c20 r20 f20
          have c2 : ∀ o, z2.cell? ⟨w.heap.size, o, none⟩ = (#[.int .i64 4, .string ho', .string hn, .string wh, .string ao, .string an, .string bo, .string bn, .string v] : Array Value)[o]? := fun o => Lib.cell_of_heap HM2.out.box o
          have r2 : ∀ o, z2.cell? ⟨N, o, none⟩ = (#[.int .i64 4, .int .i64 x0, .int .i64 0, .int .i64 x1, .int .i64 x2, .int .i64 0] : Array Value)[o]? := fun o => RuAt.cell HM2.out.at_ o
          have f2 : ∀ o, z2.frozen? ⟨N, o, none⟩ = false := fun o => RuAt.free HM2.out.at_ o
          obtain rfl : ok = false := by rw [HO.out]; simp [hx0, hx1]
          obtain rfl : uA = zeroU := by rw [HU.out]; rfl
          clear HO HU
          go_wp2_with (refine wpList_store_row rfl 34 _ _ rfl (w.heap.size + 1) zeroU.cells rfl rfl 34 _ HM2.out.out infoRule rfl (one6 _) ?_)
          have hl := cell_rule (u := zeroU) HM2.out.out
          have hz := below_setRow HM2.out.below (show w.heap.size ≤ w.heap.size + 1 by omega) zeroU.cells
          generalize World.setRow _ (w.heap.size + 1) zeroU.cells = wz at hl hz ⊢
          refine bodyPost_ret (v := .tuple #[.agg zeroU.cells, .bool false]) (by simp [results, Try.results12, go_sem, hl, Ru.cells]) rfl ⟨rfl, hz⟩
      · have hx0 : decide (0 ≤ x0) = false := decide_eq_false gx0
        go_wp2_with fail
        refine (HRA.out _ HM0.out.below).mono ?_
        rintro e v1 ⟨rfl, hb1⟩
        have HN1 := Lib.hid (HM0.out.keep (w' := v1) hb1)
        clear hb1 c0 r0 f0
        have c10 : ∀ o, v1.cell? ⟨w.heap.size, o, none⟩ = (#[.int .i64 4, .string ho', .string hn, .string wh, .string ao, .string an, .string bo, .string bn, .string v] : Array Value)[o]? := fun o => Lib.cell_of_heap HN1.out.box o
        have r10 : ∀ o, v1.cell? ⟨N, o, none⟩ = (#[.int .i64 4, .int .i64 x0, .int .i64 0, .int .i64 0, .int .i64 0, .int .i64 0] : Array Value)[o]? := fun o => RuAt.cell HN1.out.at_ o
        have f10 : ∀ o, v1.frozen? ⟨N, o, none⟩ = false := fun o => RuAt.free HN1.out.at_ o
        go_upto_region 9 with fail
        have HM1 : Hid (Mid w (v1.setCell ⟨N, 3, none⟩ (.int .i64 x1)) N 4 ho' hn wh ao an bo bn v ⟨4, x0, 0, x1, 0, 0⟩) := Lib.hid (HN1.out.put 3 (by omega) (by omega) x1)
        generalize v1.setCell ⟨N, 3, none⟩ (.int .i64 x1) = z1 at HM1 ⊢
        clear c10 r10 f10
        have c1 : ∀ o, z1.cell? ⟨w.heap.size, o, none⟩ = (#[.int .i64 4, .string ho', .string hn, .string wh, .string ao, .string an, .string bo, .string bn, .string v] : Array Value)[o]? := fun o => Lib.cell_of_heap HM1.out.box o
        have r1 : ∀ o, z1.cell? ⟨N, o, none⟩ = (#[.int .i64 4, .int .i64 x0, .int .i64 0, .int .i64 x1, .int .i64 0, .int .i64 0] : Array Value)[o]? := fun o => RuAt.cell HM1.out.at_ o
        have f1 : ∀ o, z1.frozen? ⟨N, o, none⟩ = false := fun o => RuAt.free HM1.out.at_ o
        go_wp2_with fail
        refine (HRB.out _ HM1.out.below).mono ?_
        rintro e v2 ⟨rfl, hb2⟩
        have HN2 := Lib.hid (HM1.out.keep (w' := v2) hb2)
        clear hb2 c1 r1 f1
        have c20 : ∀ o, v2.cell? ⟨w.heap.size, o, none⟩ = (#[.int .i64 4, .string ho', .string hn, .string wh, .string ao, .string an, .string bo, .string bn, .string v] : Array Value)[o]? := fun o => Lib.cell_of_heap HN2.out.box o
        have r20 : ∀ o, v2.cell? ⟨N, o, none⟩ = (#[.int .i64 4, .int .i64 x0, .int .i64 0, .int .i64 x1, .int .i64 0, .int .i64 0] : Array Value)[o]? := fun o => RuAt.cell HN2.out.at_ o
        have f20 : ∀ o, v2.frozen? ⟨N, o, none⟩ = false := fun o => RuAt.free HN2.out.at_ o
        go_upto_region 15 with fail
        have HM2 : Hid (Mid w (v2.setCell ⟨N, 4, none⟩ (.int .i64 x2)) N 4 ho' hn wh ao an bo bn v ⟨4, x0, 0, x1, x2, 0⟩) := Lib.hid (HN2.out.put 4 (by omega) (by omega) x2)
        generalize v2.setCell ⟨N, 4, none⟩ (.int .i64 x2) = z2 at HM2 ⊢
        clear c20 r20 f20
        have c2 : ∀ o, z2.cell? ⟨w.heap.size, o, none⟩ = (#[.int .i64 4, .string ho', .string hn, .string wh, .string ao, .string an, .string bo, .string bn, .string v] : Array Value)[o]? := fun o => Lib.cell_of_heap HM2.out.box o
        have r2 : ∀ o, z2.cell? ⟨N, o, none⟩ = (#[.int .i64 4, .int .i64 x0, .int .i64 0, .int .i64 x1, .int .i64 x2, .int .i64 0] : Array Value)[o]? := fun o => RuAt.cell HM2.out.at_ o
        have f2 : ∀ o, z2.frozen? ⟨N, o, none⟩ = false := fun o => RuAt.free HM2.out.at_ o
        obtain rfl : ok = false := by rw [HO.out]; simp [hx0]
        obtain rfl : uA = zeroU := by rw [HU.out]; rfl
        clear HO HU
        go_wp2_with (refine wpList_store_row rfl 34 _ _ rfl (w.heap.size + 1) zeroU.cells rfl rfl 34 _ HM2.out.out infoRule rfl (one6 _) ?_)
        have hl := cell_rule (u := zeroU) HM2.out.out
        have hz := below_setRow HM2.out.below (show w.heap.size ≤ w.heap.size + 1 by omega) zeroU.cells
        generalize World.setRow _ (w.heap.size + 1) zeroU.cells = wz at hl hz ⊢
        refine bodyPost_ret (v := .tuple #[.agg zeroU.cells, .bool false]) (by simp [results, Try.results12, go_sem, hl, Ru.cells]) rfl ⟨rfl, hz⟩
end
end Go.Proofs.Ytnhjnimgjpgfcaa.TblH
/- Tables: New, the document's Rule for all statements, and the example, by contract. -/
namespace Go.Proofs.Ytnhjnimgjpgfcaa.TblI
set_option linter.unusedVariables false
set_option linter.unusedSimpArgs false
open Go.RowKit Go.Sort Go.Lib Go.Proofs Go.Proofs.Ytnhjnimgjpgfcaa.Plain Go.Proofs.Ytnhjnimgjpgfcaa.SynP Go.Proofs.Ytnhjnimgjpgfcaa.SynE Go.Proofs.Ytnhjnimgjpgfcaa.Grown Go.Proofs.Ytnhjnimgjpgfcaa.TabP Go.Proofs.Ytnhjnimgjpgfcaa.Tab1 Go.Proofs.Ytnhjnimgjpgfcaa.Tab2 Go.Proofs.Ytnhjnimgjpgfcaa.Tab5 Go.Proofs.Ytnhjnimgjpgfcaa.RolK Go.Proofs.Ytnhjnimgjpgfcaa.TblA Go.Proofs.Ytnhjnimgjpgfcaa.TblB Go.Proofs.Ytnhjnimgjpgfcaa.TblC Go.Proofs.Ytnhjnimgjpgfcaa.TblF Go.Proofs.Ytnhjnimgjpgfcaa.TblG Go.Proofs.Ytnhjnimgjpgfcaa.TblH
set_option linter.unusedVariables false
set_option linter.unusedSimpArgs false
theorem ruleNo {P L : List Str} {s : St} (hs : s.right = false) : ruleOk P L s = false ∧ ruleA P L s = zeroU := by
  have h : ruleOk P L s = false := by unfold ruleOk; rw [hs]; rfl
  exact ⟨h, by unfold ruleA; rw [h]; rfl⟩
theorem ruleRef {P L : List Str} (A B : Option Addr) (ca cb : Nat) (w : World) (hP : P.length ≤ 100000) (hL : L.length ≤ 100000) (hA : SRow w A P) (hB : SRow w B L) (s : St) (hf : s.fit) :
    Calls Try.prog 12 #[.slice A P.length ca, .slice B L.length cb, s.val] w (RulePost (ruleOk P L s) (ruleA P L s) w) := by
  cases hs : s.right with
  | true => exact ref_yes A B ca cb w hP hL hA hB s hf hs
  | false =>
    obtain ⟨e1, e2⟩ := ruleNo (P := P) (L := L) hs
    rw [e1, e2]
    exact ref_no A B ca cb _ _ w s hf hs
def NewTPost (P L : List Str) (w : World) (e : Ending) (w' : World) : Prop := ∃ t a b A1 c1 A2 c2, e = .returned (.pointer (some ⟨t, 0, none⟩)) ∧ TblK w' t a b A1 c1 A2 c2 P L ∧ RowKit.Below w.heap.size w w'
set_option maxRecDepth 100000 in
theorem newT (A B : Option Addr) (ca cb : Nat) (P L : List Str) (w : World) (hP : P.length ≤ 100000) (hL : L.length ≤ 100000) (hA : SRow w A P) (hB : SRow w B L) :
    Calls Try.prog 9 #[.slice A P.length ca, .slice B L.length cb] w (NewTPost (tab P) (tab L) w) := by
  have HB := Lib.hid hB
  have H1 := Lib.hid (Tab1.new A ca P w (by omega) hA)
  have H2 := Lib.hid (fun w' (hb : RowKit.Below w.heap.size w w') => Tab1.new B cb L w' (by omega) (HB.out.keep hb))
  clear hA hB
  go_enter Try.func9, Try.ntmps9
  go_wp2_with fail
  refine H1.out.mono ?_
  rintro e w1 ⟨p, rfl, ⟨t1, v1, rfl, hB1, hh1, ho1⟩, hb1⟩
  obtain ⟨A1, c1, rfl, _, hr1⟩ := SRow.of_own ho1
  have K1 := Lib.hid hh1
  have R1 := Lib.hid hr1
  have B1 := Lib.hid hb1
  clear hh1 ho1 hr1 hb1 hB1
  go_wp2_with fail
  refine (H2.out _ B1.out).mono ?_
  rintro e w2 ⟨p, rfl, ⟨t2, v2, rfl, hB2, hh2, ho2⟩, hb2⟩
  obtain ⟨A2, c2, rfl, _, hr2⟩ := SRow.of_own ho2
  have l1 : t1 < w1.heap.size := (Array.getElem?_eq_some_iff.1 K1.out).1
  have l2 : t2 < w2.heap.size := (Array.getElem?_eq_some_iff.1 hh2).1
  have hz := hb2.size
  have hbx : RowKit.Below w2.heap.size w2 (w2.alloc (.cells #[.pointer (some ⟨t1, 0, none⟩), .pointer (some ⟨t2, 0, none⟩)] 67)) := (Below.refl _ _).alloc (Nat.le_refl _) _
  have hk1 := (hbx.block t1 (by omega)).trans ((hb2.block t1 l1).trans K1.out)
  have hk2 := (hbx.block t2 l2).trans hh2
  have hnew := heap_alloc_new w2 (.cells #[.pointer (some ⟨t1, 0, none⟩), .pointer (some ⟨t2, 0, none⟩)] 67)
  have HK : Hid (TblK (w2.alloc (.cells #[.pointer (some ⟨t1, 0, none⟩), .pointer (some ⟨t2, 0, none⟩)] 67)) w2.heap.size t1 t2 A1 c1 A2 c2 (tab P) (tab L)) := Lib.hid {
    t0 := by rw [Lib.cell_of_heap hnew]; rfl
    t1 := by rw [Lib.cell_of_heap hnew]; rfl
    a0 := by rw [Lib.cell_of_heap hk1]; rfl
    b0 := by rw [Lib.cell_of_heap hk2]; rfl
    ra := (R1.out.keep hb2).keep hbx
    rb := hr2.keep hbx
    lt := ⟨by simp, by simp; omega, by simp; omega⟩
    sp := tab_sorted P
    sl := tab_sorted L
    pl := by have := tab_len_le P; omega
    ll := by have := tab_len_le L; omega }
  have HBB := Lib.hid ((B1.out.trans (hb2.mono B1.out.size)).trans (hbx.mono (by have := B1.out.size; omega)))
  clear hh2 ho2 hr2 hb2 hB2 hbx hk1 hk2 hnew
  go_wp2_with fail
  go_ret
  exact ⟨_, t1, t2, A1, c1, A2, c2, rfl, HK.out, HBB.out⟩
def exP : List Str := [[66], [65]]
def exL : List Str := [[115], [114]]
theorem tabP : tab exP = [[65], [66]] := by rw [← newTo_tab]; decide +kernel
theorem tabL : tab exL = [[114], [115]] := by rw [← newTo_tab]; decide +kernel
theorem srow_lit (w w' : World) (s1 s2 : ByteArray) (n : Nat) (h : w'.heap[n]? = some (.cells #[.string s1, .string s2] 9 (0, 0))) : SRow w' (some ⟨n, 0, none⟩) [s1.data.toList, s2.data.toList] := fun _ => by
  refine ⟨n, 0, rfl, (Array.getElem?_eq_some_iff.1 h).1, fun j hj => ?_⟩
  rw [Lib.cell_of_heap h]
  have hj2 : j < 2 := hj
  match j, hj2 with
  | 0, _ => simp
  | 1, _ => simp
theorem exBr : roleI [[65], [66]] [[114], [115]] ⟨⟨#[66]⟩, ⟨#[114]⟩⟩ = 2 := by decide +kernel
theorem eqBr (w : World) : (binOp .eql 24 (.agg #[.string ⟨#[66]⟩, .string ⟨#[114]⟩]) (.agg #[.string ⟨#[66]⟩, .string ⟨#[114]⟩])).run Try.prog w = .ok (.bool true) w := by
  rw [eqR]
  simp
set_option maxRecDepth 100000 in
theorem lives (w : World) : Calls Try.prog 8 #[] w fun e w' => e = .returned (.bool true) ∧ RowKit.Below w.heap.size w w' := by
  have HN := Lib.hid (fun w' hA hB => newT (some ⟨w.heap.size, 0, none⟩) (some ⟨w.heap.size + 1, 0, none⟩) 2 2 exP exL w' (by decide) (by decide) hA hB)
  unfold NewTPost at HN
  rw [tabP, tabL] at HN
  have HR1 : Hid (∀ (w' : World) t a b A1 c1 A2 c2, TblK w' t a b A1 c1 A2 c2 [[65], [66]] [[114], [115]] → Calls Try.prog 13 #[.pointer (some ⟨t, 0, none⟩), .agg #[.string ⟨#[66]⟩, .string ⟨#[114]⟩]] w' fun e w'' => e = .returned (.int .i64 2) ∧ RowKit.Below w'.heap.size w' w'') := Lib.hid (fun w' t a b A1 c1 A2 c2 h => by
    have := role h ⟨⟨#[66]⟩, ⟨#[114]⟩⟩
    rw [exBr] at this
    exact this)
  have HR2 : Hid (∀ (w' : World) t a b A1 c1 A2 c2, TblK w' t a b A1 c1 A2 c2 [[65], [66]] [[114], [115]] → Calls Try.prog 15 #[.pointer (some ⟨t, 0, none⟩)] w' fun e w'' => e = .returned (.int .i64 4) ∧ w' = w'') := Lib.hid (fun w' t a b A1 c1 A2 c2 h => roles h)
  have HR3 : Hid (∀ (w' : World) t a b A1 c1 A2 c2, TblK w' t a b A1 c1 A2 c2 [[65], [66]] [[114], [115]] → Calls Try.prog 19 #[.pointer (some ⟨t, 0, none⟩), .int .i64 2] w' fun e w'' => e = .returned (.agg #[.string ⟨#[66]⟩, .string ⟨#[114]⟩]) ∧ RowKit.Below w'.heap.size w' w'') := Lib.hid (fun w' t a b A1 c1 A2 c2 h => roleAt_in h 1 0 (by decide) (by decide))
  have hE := eqBr
  have e1 := heap_alloc2_old w (.cells #[.string ⟨#[66]⟩, .string ⟨#[65]⟩] 9) (.cells #[.string ⟨#[115]⟩, .string ⟨#[114]⟩] 9)
  have e2 := heap_alloc2_new w (.cells #[.string ⟨#[66]⟩, .string ⟨#[65]⟩] 9) (.cells #[.string ⟨#[115]⟩, .string ⟨#[114]⟩] 9)
  have S1 := Lib.hid (srow_lit w _ _ _ _ e1)
  have S2 := Lib.hid (srow_lit w _ _ _ _ e2)
  have HB := Lib.hid (((Below.refl w.heap.size w).alloc (Nat.le_refl _) (.cells #[.string ⟨#[66]⟩, .string ⟨#[65]⟩] 9)).alloc (by simp) (.cells #[.string ⟨#[115]⟩, .string ⟨#[114]⟩] 9))
  clear e1 e2
  go_enter Try.func8, Try.ntmps8
  go_wp2_with fail
  refine (HN.out _ S1.out S2.out).mono ?_
  rintro e w1 ⟨t, a, b, A1, c1, A2, c2, rfl, hT, hb⟩
  have HT := Lib.hid hT
  have HB1 := Lib.hid (HB.out.trans (hb.mono HB.out.size))
  clear hT hb HB S1 S2 HN
  go_wp2_with fail
  refine (HR1.out _ _ _ _ _ _ _ _ HT.out).mono ?_
  rintro e w2 ⟨rfl, hb⟩
  have HT2 := Lib.hid (HT.out.keep hb)
  have HB2 := Lib.hid (HB1.out.trans (hb.mono HB1.out.size))
  clear hb HT HB1
  go_wp2_with fail
  refine (HR2.out _ _ _ _ _ _ _ _ HT2.out).mono ?_
  rintro e w3 ⟨rfl, rfl⟩
  go_wp2_with fail
  refine (HR3.out _ _ _ _ _ _ _ _ HT2.out).mono ?_
  rintro e w3 ⟨rfl, hb⟩
  have HB3 := Lib.hid (HB2.out.trans (hb.mono HB2.out.size))
  clear hb HB2
  go_wp2_with fail
  go_ret
  exact ⟨rfl, HB3.out⟩
theorem neU (k h x y z v : Int) (w : World) : (binOp .neq 34 (.agg #[.int .i64 k, .int .i64 h, .int .i64 x, .int .i64 y, .int .i64 z, .int .i64 v]) (.agg #[.int .i64 k, .int .i64 h, .int .i64 x, .int .i64 y, .int .i64 z, .int .i64 v])).run Try.prog w = .ok (.bool false) w := by
  simp only [go_sem]
  go_simp
theorem neRs (o n : ByteArray) (w : World) : (binOp .neq 24 (.agg #[.string o, .string n]) (.agg #[.string o, .string n])).run Try.prog w = .ok (.bool false) w := by
  rw [neR]
  simp
theorem eqRs (o n : ByteArray) (w : World) : (binOp .eql 24 (.agg #[.string o, .string n]) (.agg #[.string o, .string n])).run Try.prog w = .ok (.bool true) w := by
  rw [eqR]
  simp
end Go.Proofs.Ytnhjnimgjpgfcaa.TblI
/- Plain mathematics of parsing, of no program: which shape a line's tokens have, and what statement they are. -/
namespace Go.Proofs.Ytnhjnimgjpgfcaa.SynQ
set_option linter.unusedVariables false
set_option linter.unusedSimpArgs false
open Go.RowKit Go.Proofs.Ytnhjnimgjpgfcaa.Plain Go.Proofs.Ytnhjnimgjpgfcaa.SynP
/-- How many numbers two rows begin with alike. -/
def agreeN : List Int → List Int → Nat
  | a :: l, b :: s => if a = b then agreeN l s + 1 else 0
  | _, _ => 0
def kindsOf (L : List Tk) : List Int := L.map Tk.kind
theorem kinds_len (L : List Tk) : (kindsOf L).length = L.length := List.length_map ..
theorem agree_step {a b : List Int} {k : Nat} (h1 : k < a.length) (h2 : k < b.length) (h : a[k] = b[k]) : agreeN (a.drop k) (b.drop k) = agreeN (a.drop (k + 1)) (b.drop (k + 1)) + 1 := by
  rw [List.drop_eq_getElem_cons h1, List.drop_eq_getElem_cons h2]; simp [agreeN, h]
theorem agree_ne {a b : List Int} {k : Nat} (h1 : k < a.length) (h2 : k < b.length) (h : a[k] ≠ b[k]) : agreeN (a.drop k) (b.drop k) = 0 := by
  rw [List.drop_eq_getElem_cons h1, List.drop_eq_getElem_cons h2]; simp [agreeN, h]
theorem agree_end1 {a b : List Int} {k : Nat} (h : a.length ≤ k) : agreeN (a.drop k) (b.drop k) = 0 := by
  rw [List.drop_of_length_le h]; cases b.drop k <;> rfl
theorem agree_end2 {a b : List Int} {k : Nat} (h : b.length ≤ k) : agreeN (a.drop k) (b.drop k) = 0 := by
  rw [List.drop_of_length_le h]; cases a.drop k <;> rfl
theorem agree_le1 : ∀ (a b : List Int), agreeN a b ≤ a.length
  | [], _ => by simp [agreeN]
  | _ :: _, [] => by simp [agreeN]
  | a :: l, b :: s => by
    unfold agreeN
    split
    · have := agree_le1 l s; simp; omega
    · simp
theorem agree_le2 : ∀ (a b : List Int), agreeN a b ≤ b.length
  | [], _ => by simp [agreeN]
  | _ :: _, [] => by simp [agreeN]
  | a :: l, b :: s => by
    unfold agreeN
    split
    · have := agree_le2 l s; simp; omega
    · simp
theorem agree_all : ∀ (a b : List Int), agreeN a b = a.length → agreeN a b = b.length → a = b
  | [], [], _, _ => rfl
  | [], _ :: _, _, h => by simp [agreeN] at h
  | _ :: _, [], h, _ => by simp [agreeN] at h
  | a :: l, b :: s, h1, h2 => by
    unfold agreeN at h1 h2
    split at h1
    · rename_i e
      subst e
      simp at h1 h2
      rw [agree_all l s h1 h2]
    · simp at h1
theorem agree_self : ∀ a : List Int, agreeN a a = a.length
  | [] => rfl
  | a :: l => by unfold agreeN; rw [if_pos rfl, agree_self l]; rfl
/-- The kinds of the tokens of a statement's line. -/
def shapeK : Nat → List Int
  | 1 => [1, 3, 2, 4, 1]
  | 2 => [1, 3, 2, 4, 1, 3, 2]
  | 3 => [1, 3, 2, 4, 1, 3, 2, 3, 2]
  | 4 => [1, 3, 2, 4, 1, 3, 2, 5, 1, 3, 2]
  | _ => []
def textAt (L : List Tk) (k : Nat) : ByteArray := (L[k]?.map Tk.text).getD noText
/-- The statement of a kind whose line has these tokens, ahead of its normal form. -/
def stmtOf (k : Nat) (L : List Tk) : St :=
  ⟨k, ⟨textAt L 0, textAt L 2⟩, if k = 1 then textAt L 4 else noText, if k = 1 then zeroR else ⟨textAt L 4, textAt L 6⟩, if k = 4 then ⟨textAt L 8, textAt L 10⟩ else zeroR, if k = 3 then textAt L 8 else noText⟩
/-- The place behind the last token. -/
def behindOf (L : List Tk) : Nat := match L.getLast? with
  | none => 1
  | some t => t.col + t.text.size
/-- How many tokens one of the first shapes begins with like these. -/
def bestOf (L : List Tk) : Nat → Nat
  | 0 => 0
  | k + 1 => max (bestOf L k) (agreeN (kindsOf L) (shapeK (k + 1)))
def colAt (L : List Tk) (k : Nat) : Nat := (L[k]?.map Tk.col).getD 0
theorem textAt_eq {L : List Tk} {k : Nat} (h : k < L.length) : textAt L k = L[k].text := by unfold textAt; rw [List.getElem?_eq_getElem h]; rfl
theorem colAt_eq {L : List Tk} {k : Nat} (h : k < L.length) : colAt L k = L[k].col := by unfold colAt; rw [List.getElem?_eq_getElem h]; rfl
/-- Which statement tokens are; else the place, and what is wrong. -/
def parseL (L : List Tk) : St × Int × Int :=
  if kindsOf L = shapeK 1 then ((stmtOf 1 L).normal, 0, 0)
  else if kindsOf L = shapeK 2 then ((stmtOf 2 L).normal, 0, 0)
  else if kindsOf L = shapeK 3 then ((stmtOf 3 L).normal, 0, 0)
  else if kindsOf L = shapeK 4 then ((stmtOf 4 L).normal, 0, 0)
  else if bestOf L 4 < L.length then (zeroS, colAt L (bestOf L 4), 2)
  else (zeroS, behindOf L, 3)
end Go.Proofs.Ytnhjnimgjpgfcaa.SynQ
/- The words of a line: inWord, wordSize. -/
namespace Go.Proofs.Ytnhjnimgjpgfcaa.Scan1
set_option linter.unusedVariables false
set_option linter.unusedSimpArgs false
open Go.RowKit Go.Proofs.Ytnhjnimgjpgfcaa.Plain Go.Proofs.Ytnhjnimgjpgfcaa.Leaf Go.Proofs.Ytnhjnimgjpgfcaa.Named
theorem dig_eq (b : UInt8) : ((decide (48 < b.toNat) || (48 : UInt8) == b) && (decide (b.toNat < 57) || b == 57)) = digB b.toNat := by
  rw [u8_eq, u8_eq]
  unfold digB
  rw [Bool.eq_iff_iff]
  have e1 : (48 : UInt8).toNat = 48 := rfl
  have e2 : (57 : UInt8).toNat = 57 := rfl
  simp only [e1, e2, Bool.and_eq_true, Bool.or_eq_true, decide_eq_true_iff]
  omega
theorem dig_no (b : UInt8) (h : ¬ (48 < b.toNat ∨ (48 : UInt8) = b)) : digB b.toNat = false := by
  rw [← dig_eq, u8_eq]
  have e1 : (48 : UInt8).toNat = 48 := rfl
  have : ¬ (48 = b.toNat) := fun e => h (.inr (UInt8.toNat_inj.1 (by rw [e1]; exact e)))
  rw [e1, decide_eq_false this, decide_eq_false (fun e => h (.inl e))]
  rfl
theorem one_byte (s : ByteArray) (k : Nat) (h : k < s.size) : (s.extract k (k + 1)).data.toList = [s[k]] := by
  rw [ByteArray.data_extract, Array.toList_extract, List.extract_eq_take_drop]
  rw [show k + 1 - k = 1 from by omega, drop_cons h]
  rfl
end Go.Proofs.Ytnhjnimgjpgfcaa.Scan1
/- A line without its comment, in the program and in the document's answers; the first token of a line. -/
namespace Go.Proofs.Ytnhjnimgjpgfcaa.Scan2
set_option linter.unusedVariables false
set_option linter.unusedSimpArgs false
open Go.RowKit Go.Proofs.Ytnhjnimgjpgfcaa.Plain Go.Proofs.Ytnhjnimgjpgfcaa.Leaf Go.Proofs.Ytnhjnimgjpgfcaa.Named Go.Proofs.Ytnhjnimgjpgfcaa.Scan1
theorem indexByte_cases (l : List UInt8) (c : UInt8) : (Lib.indexByte l c = -1 ∧ l.takeWhile (fun x => x != c) = l) ∨ ∃ i : Nat, Lib.indexByte l c = i ∧ i < l.length ∧ l.takeWhile (fun x => x != c) = l.take i := by
  induction l with
  | nil => exact .inl ⟨rfl, rfl⟩
  | cons b l ih =>
    unfold Lib.indexByte
    rw [List.takeWhile_cons]
    by_cases h : b = c
    · subst h
      exact .inr ⟨0, by rw [if_pos (by simp)]; rfl, by simp, by simp⟩
    · have hb : (b == c) = false := by simpa using h
      have hn : (b != c) = true := by simpa using h
      rw [if_pos hn]
      simp only [hb, Bool.false_eq_true, if_false]
      rcases ih with ⟨h1, h2⟩ | ⟨i, h1, h2, h3⟩
      · left
        rw [h1, h2]
        simp
      · right
        refine ⟨i + 1, ?_, ?_, ?_⟩
        · rw [h1, if_neg (by simp)]; omega
        · simp; omega
        · rw [h3, List.take_succ_cons]
def CutPost (s : ByteArray) (w : World) (e : Ending) (w' : World) : Prop := (∃ x b, e = .returned (.tuple #[.string (bare s), .string x, .bool b])) ∧ ∃ n, w' = w.drewN n
theorem bare_all {s : ByteArray} (h : s.data.toList.takeWhile (fun x => x != 35) = s.data.toList) : bare s = s := by
  unfold bare
  rw [h]
theorem bare_take {s : ByteArray} {i : Nat} (h : s.data.toList.takeWhile (fun x => x != 35) = s.data.toList.take i) : bare s = s.extract 0 i := by
  unfold bare
  rw [h]
  apply ByteArray.ext
  rw [ByteArray.data_extract]
  apply Array.ext'
  simp
theorem takeWhile_stop {l : List UInt8} {k : Nat} (hk : k < l.length) (hall : ∀ j, (h : j < k) → l[j]'(by omega) ≠ 35) (hc : l[k] = 35) : l.takeWhile (fun x => x != 35) = l.take k := by
  induction k generalizing l with
  | zero =>
    cases l with
    | nil => rfl
    | cons a l =>
      have : a = 35 := hc
      subst this
      rfl
  | succ k ih =>
    cases l with
    | nil => simp at hk
    | cons a l =>
      have ha : a ≠ 35 := hall 0 (by omega)
      rw [List.takeWhile_cons, if_pos (by simpa using ha), List.take_succ_cons, ih (by simpa using hk) (fun j hj => hall (j + 1) (by omega)) hc]
theorem takeWhile_all {l : List UInt8} (hall : ∀ x ∈ l, x ≠ 35) : l.takeWhile (fun x => x != 35) = l := by
  induction l with
  | nil => rfl
  | cons a l ih =>
    rw [List.takeWhile_cons, if_pos (by simpa using hall a (by simp)), ih fun x hx => hall x (by simp [hx])]
theorem bare_stop {s : ByteArray} {k : Nat} (hk : k < s.size) (hall : ∀ j, (h : j < s.size) → j < k → (s[j].toNat : Int) ≠ 35) (hc : (s[k].toNat : Int) = 35) : bare s = s.extract 0 k := by
  apply bare_take
  exact takeWhile_stop (by rw [toList_len]; exact hk) (fun j hj => fun e => hall j (by omega) hj (by have h : s[j] = 35 := e; rw [h]; rfl)) (UInt8.toNat_inj.1 (by have : s[k] = s.data.toList[k] := rfl; rw [← this]; show s[k].toNat = 35; omega))
theorem bare_none {s : ByteArray} (hall : ∀ j, (h : j < s.size) → (s[j].toNat : Int) ≠ 35) : bare s = s := by
  apply bare_all
  refine takeWhile_all fun x hx => ?_
  obtain ⟨j, hj, rfl⟩ := List.getElem_of_mem hx
  rw [toList_len] at hj
  intro e
  exact hall j hj (by have h : s[j] = 35 := e; rw [h]; rfl)
def firstA (s : ByteArray) (h : 0 < s.size) : Int × Int :=
  if capB s[0].toNat then (1, wlen s 0)
  else if smallB s[0].toNat then (2, wlen s 0)
  else if s[0] = 46 then (3, 1)
  else if s[0] = 38 then (5, 1)
  else if Lib.hasPrefix s.data.toList [60, 45] then (4, 2)
  else (0, 0)
end Go.Proofs.Ytnhjnimgjpgfcaa.Scan2
/- The tokens of a line, in the program. -/
namespace Go.Proofs.Ytnhjnimgjpgfcaa.Scan3
set_option linter.unusedVariables false
set_option linter.unusedSimpArgs false
open Go.RowKit Go.Proofs.Ytnhjnimgjpgfcaa.Plain Go.Proofs.Ytnhjnimgjpgfcaa.Leaf Go.Proofs.Ytnhjnimgjpgfcaa.Named Go.Proofs.Ytnhjnimgjpgfcaa.Scan1 Go.Proofs.Ytnhjnimgjpgfcaa.Scan2
theorem rest_list (t : ByteArray) (k : Nat) : (t.extract k t.size).data.toList = t.data.toList.drop k := by
  rw [ByteArray.data_extract, Array.toList_extract, List.extract_eq_take_drop]
  apply List.take_of_length_le
  rw [List.length_drop, toList_len]
  exact Nat.le_refl _
theorem rest_size (t : ByteArray) (k : Nat) : (t.extract k t.size).size = t.size - k := by
  rw [← toList_len, rest_list, List.length_drop, toList_len]
theorem rest_head (t : ByteArray) (k : Nat) (h : k < t.size) (h0 : 0 < (t.extract k t.size).size) : (t.extract k t.size)[0] = t[k] := by
  have e := headD_eq h0
  rw [rest_list, drop_cons h] at e
  exact e.symm
theorem rest_wlen (t : ByteArray) (k : Nat) : wlen (t.extract k t.size) 0 = wlen t k := by
  unfold wlen
  rw [rest_list]; rfl
theorem word_of_cap {n : Int} (h : capB n = true) : wordB n = true := by unfold wordB; rw [h]; rfl
theorem word_of_small {n : Int} (h : smallB n = true) : wordB n = true := by unfold wordB; rw [h]; simp
theorem prefix_len (t : ByteArray) (k : Nat) (h5 : Lib.hasPrefix (t.data.toList.drop k) [60, 45] = true) : k + 2 ≤ t.size := by
  have h : [60, 45] <+: t.data.toList.drop k := by
    unfold Lib.hasPrefix at h5
    exact List.isPrefixOf_iff_prefix.1 h5
  have := h.length_le
  rw [List.length_drop, toList_len] at this
  simp at this
  omega
inductive Cases (t : ByteArray) (k : Nat) (h : k < t.size) (F : Int × Int) : Prop where
  | tok (kind : Int) (m : Nat) (hs : tkStep t k h = .tok kind m) (hF : F = (kind, ((m + 1 : Nat) : Int))) (h8 : m + 1 ≤ 8) (hk : k + (m + 1) ≤ t.size)
  | none_ (hs : tkStep t k h = .bad 1) (hF : F = (0, 0))
  | long (kind : Int) (n : Nat) (hs : tkStep t k h = .bad 4) (hF : F = (kind, (n : Int))) (h8 : 8 < n)
theorem step_cases (t : ByteArray) (k : Nat) (h : k < t.size) (h32 : t[k] ≠ 32) (h0 : 0 < (t.extract k t.size).size) : Cases t k h (firstA (t.extract k t.size) h0) := by
  have hh := rest_head t k h h0
  have hw := rest_wlen t k
  have hle := wlen_le t k
  unfold firstA
  rw [hh, hw, rest_list]
  cases h1 : capB t[k].toNat
  · rw [if_neg (by decide)]
    cases h2 : smallB t[k].toNat
    · rw [if_neg (by decide)]
      by_cases h3 : t[k] = 46
      · rw [if_pos h3]
        exact .tok 3 0 (by unfold tkStep; rw [if_neg h32, if_neg (by rw [h1]; decide), if_neg (by rw [h2]; decide), if_pos h3]) rfl (by omega) (by omega)
      · rw [if_neg h3]
        by_cases h4 : t[k] = 38
        · rw [if_pos h4]
          exact .tok 5 0 (by unfold tkStep; rw [if_neg h32, if_neg (by rw [h1]; decide), if_neg (by rw [h2]; decide), if_neg h3, if_pos h4]) rfl (by omega) (by omega)
        · rw [if_neg h4]
          cases h5 : Lib.hasPrefix (t.data.toList.drop k) [60, 45]
          · rw [if_neg (by decide)]
            exact .none_ (by unfold tkStep; rw [if_neg h32, if_neg (by rw [h1]; decide), if_neg (by rw [h2]; decide), if_neg h3, if_neg h4, if_neg (by rw [h5]; decide)]) rfl
          · rw [if_pos rfl]
            exact .tok 4 1 (by unfold tkStep; rw [if_neg h32, if_neg (by rw [h1]; decide), if_neg (by rw [h2]; decide), if_neg h3, if_neg h4, if_pos h5]) rfl (by omega) (by have := prefix_len t k h5; omega)
    · rw [if_pos rfl]
      have hs := wlen_succ h (word_of_small h2)
      by_cases h8 : wlen t (k + 1) + 1 > 8
      · exact .long 2 (wlen t k) (by unfold tkStep; rw [if_neg h32, if_neg (by rw [h1]; decide), if_pos h2, if_pos h8]) rfl (by omega)
      · exact .tok 2 (wlen t (k + 1)) (by unfold tkStep; rw [if_neg h32, if_neg (by rw [h1]; decide), if_pos h2, if_neg h8]) (by rw [hs]) (by omega) (by omega)
  · rw [if_pos rfl]
    have hs := wlen_succ h (word_of_cap h1)
    by_cases h8 : wlen t (k + 1) + 1 > 8
    · exact .long 1 (wlen t k) (by unfold tkStep; rw [if_neg h32, if_pos h1, if_pos h8]) rfl (by omega)
    · exact .tok 1 (wlen t (k + 1)) (by unfold tkStep; rw [if_neg h32, if_pos h1, if_neg h8]) (by rw [hs]) (by omega) (by omega)
theorem bare_le (s : ByteArray) : (bare s).size ≤ s.size := by
  rw [← toList_len, ← toList_len s]
  unfold bare
  exact (List.takeWhile_sublist _).length_le
def okCol : TkAns → Int
  | .ok _ => 0
  | .bad c _ => c
def okErr : TkAns → Int
  | .ok _ => 0
  | .bad _ e => e
def okToks : TkAns → List Tk
  | .ok l => l
  | .bad _ _ => []
/-- What Tokens answers of a line. -/
def ansOf (s : ByteArray) : TkAns := if s.size > 200 then .bad 201 4 else tkRun (bare s) 0 []
theorem new_cells3 (w : World) (a b c : Value) (t : TypeId) : ∀ j u, [a, b, c][j]? = some u → (w.alloc (.cells #[a, b, c] t)).cell? ((⟨w.heap.size, 0, none⟩ : Addr).add j) = some u := by
  intro j u hu
  have h : (w.alloc (.cells #[a, b, c] t)).cell? ⟨w.heap.size, j, none⟩ = #[a, b, c][j]? := Lib.cell_of_heap (heap_alloc_new w _) j
  have e : ((⟨w.heap.size, 0, none⟩ : Addr).add j) = ⟨w.heap.size, j, none⟩ := by
    unfold Addr.add
    split
    · rename_i h0; rw [h0]
    · simp
  rw [e, h, ← hu]
  simp
theorem own_snoc {w : World} {B : Nat} {e : TypeId} {v : Value} {L : List Tk} {t : Tk} (h : w.ownsRow B e 3 v (L.length + 1) (tkCells L ++ [.int .i64 t.kind, .string t.text, .int .i64 ((t.col : Nat) : Int)])) : w.ownsRow B e 3 v (L ++ [t]).length (tkCells (L ++ [t])) := by
  have e1 : tkCells (L ++ [t]) = tkCells L ++ [.int .i64 t.kind, .string t.text, .int .i64 ((t.col : Nat) : Int)] := by
    unfold tkCells; simp [Tk.cells]
  rw [e1, List.length_append]
  exact h
theorem below_own {a w w1 : World} {e : TypeId} {size n : Nat} {v : Value} {xs : List Value} {o : Obj} (hb : Below a.heap.size a w) (hown : w.ownsRow a.heap.size e size v n xs) (hg : (w.alloc o).grownBy w1 v.ownBlock) : Below a.heap.size a w1 :=
  (hb.alloc hb.size o).grown hg (by have := hb.size; simp; omega) (fun k hk => (hown.lt k hk).1)
end Go.Proofs.Ytnhjnimgjpgfcaa.Scan3
