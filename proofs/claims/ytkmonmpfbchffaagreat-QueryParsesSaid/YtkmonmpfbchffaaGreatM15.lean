/- The kinds of the tokens of a line, in the program and in the document's answers. -/
import Derived.Test.YtkmonmpfbchffaaGreatM14
import Derived.Test.YtkmonmpfbchffaaGreatM10
import Derived.Test.YtkmonmpfbchffaaGreatM03
import Derived.Test.YtkmonmpfbchffaaGreatM13
import Derived.RegionTactic
import Derived.Test.YtkmonmpfbchffaaGreatM12
namespace Go.Proofs.YtkmonmpfbchffaaGreat.SynH
set_option linter.unusedVariables false
set_option linter.unusedSimpArgs false
open Go.RowKit Go.Sort Go.Proofs.YtkmonmpfbchffaaGreat.Plain Go.Proofs.YtkmonmpfbchffaaGreat.SynP Go.Proofs.YtkmonmpfbchffaaGreat.SynQ Go.Proofs.YtkmonmpfbchffaaGreat.Grown Go.Proofs.YtkmonmpfbchffaaGreat.SynA Go.Proofs.YtkmonmpfbchffaaGreat.SynC Go.Proofs.YtkmonmpfbchffaaGreat.SynG
set_option linter.unusedVariables false
set_option linter.unusedSimpArgs false
theorem iat_of_own {w : World} {B : Nat} {e : TypeId} {v : Value} {l : List Int} (h : w.ownsRow B e 1 v l.length (icells l)) : ∃ A cap, v = .slice A l.length cap ∧ IAt w A l := by
  rcases h.2 with ⟨rfl, h0⟩ | ⟨g, cap, cur, rfl, hB, hh, hc, hm, hs, ht⟩
  · exact ⟨none, 0, by rw [h0], fun hp => by omega⟩
  · refine ⟨_, _, rfl, fun hp => ⟨g, 0, rfl, (h.lt g rfl).2, fun j hj => ?_⟩⟩
    have a : (icells l)[j]? = some (.int .i64 l[j]) := by unfold icells; rw [List.getElem?_map, List.getElem?_eq_getElem hj]; rfl
    rw [← ht] at a
    rw [List.getElem?_take_of_lt (by omega)] at a
    rw [Lib.cell_of_heap hh, ← Array.getElem?_toList, Nat.zero_add]
    exact a
theorem iat_new (w : World) (l : List Int) (t : TypeId) : IAt (w.alloc (.cells (icells l).toArray t)) (some ⟨w.heap.size, 0, none⟩) l := fun _ =>
  ⟨w.heap.size, 0, rfl, by simp, fun k hk => by
    rw [Lib.cell_of_heap (heap_alloc_new w _), Nat.zero_add]
    unfold icells
    simp [hk]⟩
theorem iat_alloc {w : World} {A : Option Addr} {l : List Int} (h : IAt w A l) (o : Obj) : IAt (w.alloc o) A l := h.below ((Below.refl _ _).alloc (Nat.le_refl _) o)
theorem new_cell (w : World) (c : Array Value) (t : TypeId) (j : Nat) : (w.alloc (.cells c t)).cell? ⟨w.heap.size, j, none⟩ = c[j]? := Lib.cell_of_heap (heap_alloc_new w _) j
theorem own_base {w : World} {B B' : Nat} {e : TypeId} {size n : Nat} {v : Value} {xs : List Value} (h : w.ownsRow B e size v n xs) (hB : B' ≤ B) : w.ownsRow B' e size v n xs := by
  refine ⟨h.1, ?_⟩
  rcases h.2 with h0 | ⟨g, cap, cur, hv, hg, r⟩
  · exact .inl h0
  · exact .inr ⟨g, cap, cur, hv, Nat.le_trans hB hg, r⟩
set_option maxHeartbeats 1000000 in
set_option maxRecDepth 100000 in
theorem shapeOf1 (w : World) : Calls Tryz.prog 243 #[.int .i64 1] w (IPost (shapeK 1) w) := by
  obtain ⟨i0, hi, hz0, hz1, hz2⟩ := info_parts infoInt
  go_enter Tryz.func243, Tryz.ntmps243
  go_wp2_with fail
  have k1 : IAt (((w.alloc (.cells #[.int .i64 1, .int .i64 3, .int .i64 2] 3)).alloc (.cells #[.int .i64 4] 3)).alloc (.cells #[.slice (some ⟨w.heap.size, 0, none⟩) 3 3, .slice (some ⟨w.heap.size + 1, 0, none⟩) 1 1] 156)) (some ⟨w.heap.size, 0, none⟩) [1, 3, 2] := iat_alloc (iat_alloc (iat_new w [1, 3, 2] _) _) _
  have k2 : IAt (((w.alloc (.cells #[.int .i64 1, .int .i64 3, .int .i64 2] 3)).alloc (.cells #[.int .i64 4] 3)).alloc (.cells #[.slice (some ⟨w.heap.size, 0, none⟩) 3 3, .slice (some ⟨w.heap.size + 1, 0, none⟩) 1 1] 156)) (some ⟨w.heap.size + 1, 0, none⟩) [4] := by
    have := iat_new (w.alloc (.cells #[.int .i64 1, .int .i64 3, .int .i64 2] 3)) [4] 3
    rw [World.size_alloc] at this
    exact iat_alloc this _
  have k3 : ∀ j, (((w.alloc (.cells #[.int .i64 1, .int .i64 3, .int .i64 2] 3)).alloc (.cells #[.int .i64 4] 3)).alloc (.cells #[.slice (some ⟨w.heap.size, 0, none⟩) 3 3, .slice (some ⟨w.heap.size + 1, 0, none⟩) 1 1] 156)).cell? ⟨w.heap.size + 1 + 1, j, none⟩ = (#[.slice (some ⟨w.heap.size, 0, none⟩) 3 3, .slice (some ⟨w.heap.size + 1, 0, none⟩) 1 1] : Array Value)[j]? := fun j => by
    have := new_cell ((w.alloc (.cells #[.int .i64 1, .int .i64 3, .int .i64 2] 3)).alloc (.cells #[.int .i64 4] 3)) #[.slice (some ⟨w.heap.size, 0, none⟩) 3 3, .slice (some ⟨w.heap.size + 1, 0, none⟩) 1 1] 156 j
    rw [World.size_alloc, World.size_alloc] at this
    exact this
  refine (concatI (w.heap.size + 1 + 1) 2 [⟨some ⟨w.heap.size, 0, none⟩, 3, [1, 3, 2]⟩, ⟨some ⟨w.heap.size + 1, 0, none⟩, 1, [4]⟩] _ (by simp) (by simp) (by simp) (fun j hj => by rw [k3]; match j, hj with | 0, _ => rfl | 1, _ => rfl) (by simp only [List.mem_cons, List.not_mem_nil, or_false]; rintro r (rfl | rfl); exact k1; exact k2)).mono ?_
  rintro e w1 ⟨v1, rfl, hown, hb⟩
  have hb0 : Below w.heap.size w w1 := ((((Below.refl _ _).alloc (Nat.le_refl _) _).alloc (by simp) _).alloc (by simp; omega) _).trans (hb.mono (by simp; omega))
  have k5 : IAt w1 (some ⟨w.heap.size, 0, none⟩) [1, 3, 2] := k1.below hb
  have hsz := hb.size
  simp only [World.size_alloc] at hsz
  rw [World.size_alloc, World.size_alloc, World.size_alloc] at hown
  have hown' : w1.ownsRow (w.heap.size + 1 + 1 + 1) 3 1 v1 ([1, 3, 2, 4] : List Int).length (icells [1, 3, 2, 4]) := hown
  clear k1 k2 k3 hown hb
  clear k5
  go_wp2_with (at_builtin; refine wpList_append_own _ rfl _ _ 156 rfl (w.heap.size + 1 + 1 + 1) 3 i0 (.int .i64 0) 1 8 Tryz.underlying156 hi hz0 hz1 hz2 rfl (by decide) _ _ _ rfl (hown'.alloc _) ⟨w1.heap.size, 0, none⟩ 1 1 [.int .i64 1] rfl rfl ?c1 ?c2 ?c3 ?c4 ?c5 ?_)
  case c1 => intro j u hu; rw [add_off, Nat.zero_add, new_cell, ← hu]; simp
  case c2 => intro u hu; simp at hu; rw [hu]; rfl
  case c3 => unfold maxLen; decide
  case c4 => decide
  case c5 => simp; omega
  intro v2 w2 hown2 hgrow _
  have hb2 : Below w.heap.size w w2 := (hb0.alloc hb0.size _).grown hgrow (by simp; omega) (fun k hk => by have := (hown'.lt k hk).1; omega)
  clear hown' hgrow hb0
  go_wp2_with fail
  go_ret
  exact ⟨_, rfl, own_base hown2 (by omega), hb2⟩
set_option maxHeartbeats 1000000 in
set_option maxRecDepth 100000 in
theorem shapeOf2 (w : World) : Calls Tryz.prog 243 #[.int .i64 2] w (IPost (shapeK 2) w) := by
  go_enter Tryz.func243, Tryz.ntmps243
  go_wp2_with fail
  have k1 : IAt (((w.alloc (.cells #[.int .i64 1, .int .i64 3, .int .i64 2] 3)).alloc (.cells #[.int .i64 4] 3)).alloc (.cells #[.slice (some ⟨w.heap.size, 0, none⟩) 3 3, .slice (some ⟨w.heap.size + 1, 0, none⟩) 1 1] 156)) (some ⟨w.heap.size, 0, none⟩) [1, 3, 2] := iat_alloc (iat_alloc (iat_new w [1, 3, 2] _) _) _
  have k2 : IAt (((w.alloc (.cells #[.int .i64 1, .int .i64 3, .int .i64 2] 3)).alloc (.cells #[.int .i64 4] 3)).alloc (.cells #[.slice (some ⟨w.heap.size, 0, none⟩) 3 3, .slice (some ⟨w.heap.size + 1, 0, none⟩) 1 1] 156)) (some ⟨w.heap.size + 1, 0, none⟩) [4] := by
    have := iat_new (w.alloc (.cells #[.int .i64 1, .int .i64 3, .int .i64 2] 3)) [4] 3
    rw [World.size_alloc] at this
    exact iat_alloc this _
  have k3 : ∀ j, (((w.alloc (.cells #[.int .i64 1, .int .i64 3, .int .i64 2] 3)).alloc (.cells #[.int .i64 4] 3)).alloc (.cells #[.slice (some ⟨w.heap.size, 0, none⟩) 3 3, .slice (some ⟨w.heap.size + 1, 0, none⟩) 1 1] 156)).cell? ⟨w.heap.size + 1 + 1, j, none⟩ = (#[.slice (some ⟨w.heap.size, 0, none⟩) 3 3, .slice (some ⟨w.heap.size + 1, 0, none⟩) 1 1] : Array Value)[j]? := fun j => by
    have := new_cell ((w.alloc (.cells #[.int .i64 1, .int .i64 3, .int .i64 2] 3)).alloc (.cells #[.int .i64 4] 3)) #[.slice (some ⟨w.heap.size, 0, none⟩) 3 3, .slice (some ⟨w.heap.size + 1, 0, none⟩) 1 1] 156 j
    rw [World.size_alloc, World.size_alloc] at this
    exact this
  refine (concatI (w.heap.size + 1 + 1) 2 [⟨some ⟨w.heap.size, 0, none⟩, 3, [1, 3, 2]⟩, ⟨some ⟨w.heap.size + 1, 0, none⟩, 1, [4]⟩] _ (by simp) (by simp) (by simp) (fun j hj => by rw [k3]; match j, hj with | 0, _ => rfl | 1, _ => rfl) (by simp only [List.mem_cons, List.not_mem_nil, or_false]; rintro r (rfl | rfl); exact k1; exact k2)).mono ?_
  rintro e w1 ⟨v1, rfl, hown, hb⟩
  have hb0 : Below w.heap.size w w1 := ((((Below.refl _ _).alloc (Nat.le_refl _) _).alloc (by simp) _).alloc (by simp; omega) _).trans (hb.mono (by simp; omega))
  have k5 : IAt w1 (some ⟨w.heap.size, 0, none⟩) [1, 3, 2] := k1.below hb
  have hsz := hb.size
  simp only [World.size_alloc] at hsz
  rw [World.size_alloc, World.size_alloc, World.size_alloc] at hown
  have hown' : w1.ownsRow (w.heap.size + 1 + 1 + 1) 3 1 v1 ([1, 3, 2, 4] : List Int).length (icells [1, 3, 2, 4]) := hown
  clear k1 k2 k3 hown hb
  obtain ⟨A, c, rfl, hA⟩ := iat_of_own hown'
  clear hown'
  go_wp2_with fail
  have j0 : ∀ j, (w1.alloc (.cells #[.slice A 4 c, .slice (some ⟨w.heap.size, 0, none⟩) 3 3] 156)).cell? ⟨w1.heap.size, j, none⟩ = (#[.slice A 4 c, .slice (some ⟨w.heap.size, 0, none⟩) 3 3] : Array Value)[j]? := fun j => by
    have := new_cell w1 #[.slice A 4 c, .slice (some ⟨w.heap.size, 0, none⟩) 3 3] 156 j
    skip
    exact this
  have j1 : IAt (w1.alloc (.cells #[.slice A 4 c, .slice (some ⟨w.heap.size, 0, none⟩) 3 3] 156)) A [1, 3, 2, 4] := iat_alloc hA _
  have j2 : IAt (w1.alloc (.cells #[.slice A 4 c, .slice (some ⟨w.heap.size, 0, none⟩) 3 3] 156)) (some ⟨w.heap.size, 0, none⟩) [1, 3, 2] := iat_alloc k5 _
  refine (concatI (w1.heap.size) 2 [⟨A, c, [1, 3, 2, 4]⟩, ⟨some ⟨w.heap.size, 0, none⟩, 3, [1, 3, 2]⟩] _ (by simp) (by simp) (by simp) (fun j hj => by rw [j0]; match j, hj with | 0, _ => rfl | 1, _ => rfl) (by simp only [List.mem_cons, List.not_mem_nil, or_false]; rintro r (rfl | rfl); exact j1; exact j2)).mono ?_
  rintro e w2 ⟨v2, rfl, hown2, hb2⟩
  have hb3 := hb2.mono (B' := w.heap.size) (by simp; omega)
  have hbel : Below w.heap.size w w2 := (hb0.alloc hb0.size _).trans hb3
  clear j0 j1 j2 k5 hA
  go_wp2_with fail
  go_ret
  exact ⟨_, rfl, own_base hown2 (by simp; omega), hbel⟩
set_option maxHeartbeats 1000000 in
set_option maxRecDepth 100000 in
theorem shapeOf3 (w : World) : Calls Tryz.prog 243 #[.int .i64 3] w (IPost (shapeK 3) w) := by
  go_enter Tryz.func243, Tryz.ntmps243
  go_wp2_with fail
  have k1 : IAt (((w.alloc (.cells #[.int .i64 1, .int .i64 3, .int .i64 2] 3)).alloc (.cells #[.int .i64 4] 3)).alloc (.cells #[.slice (some ⟨w.heap.size, 0, none⟩) 3 3, .slice (some ⟨w.heap.size + 1, 0, none⟩) 1 1] 156)) (some ⟨w.heap.size, 0, none⟩) [1, 3, 2] := iat_alloc (iat_alloc (iat_new w [1, 3, 2] _) _) _
  have k2 : IAt (((w.alloc (.cells #[.int .i64 1, .int .i64 3, .int .i64 2] 3)).alloc (.cells #[.int .i64 4] 3)).alloc (.cells #[.slice (some ⟨w.heap.size, 0, none⟩) 3 3, .slice (some ⟨w.heap.size + 1, 0, none⟩) 1 1] 156)) (some ⟨w.heap.size + 1, 0, none⟩) [4] := by
    have := iat_new (w.alloc (.cells #[.int .i64 1, .int .i64 3, .int .i64 2] 3)) [4] 3
    rw [World.size_alloc] at this
    exact iat_alloc this _
  have k3 : ∀ j, (((w.alloc (.cells #[.int .i64 1, .int .i64 3, .int .i64 2] 3)).alloc (.cells #[.int .i64 4] 3)).alloc (.cells #[.slice (some ⟨w.heap.size, 0, none⟩) 3 3, .slice (some ⟨w.heap.size + 1, 0, none⟩) 1 1] 156)).cell? ⟨w.heap.size + 1 + 1, j, none⟩ = (#[.slice (some ⟨w.heap.size, 0, none⟩) 3 3, .slice (some ⟨w.heap.size + 1, 0, none⟩) 1 1] : Array Value)[j]? := fun j => by
    have := new_cell ((w.alloc (.cells #[.int .i64 1, .int .i64 3, .int .i64 2] 3)).alloc (.cells #[.int .i64 4] 3)) #[.slice (some ⟨w.heap.size, 0, none⟩) 3 3, .slice (some ⟨w.heap.size + 1, 0, none⟩) 1 1] 156 j
    rw [World.size_alloc, World.size_alloc] at this
    exact this
  refine (concatI (w.heap.size + 1 + 1) 2 [⟨some ⟨w.heap.size, 0, none⟩, 3, [1, 3, 2]⟩, ⟨some ⟨w.heap.size + 1, 0, none⟩, 1, [4]⟩] _ (by simp) (by simp) (by simp) (fun j hj => by rw [k3]; match j, hj with | 0, _ => rfl | 1, _ => rfl) (by simp only [List.mem_cons, List.not_mem_nil, or_false]; rintro r (rfl | rfl); exact k1; exact k2)).mono ?_
  rintro e w1 ⟨v1, rfl, hown, hb⟩
  have hb0 : Below w.heap.size w w1 := ((((Below.refl _ _).alloc (Nat.le_refl _) _).alloc (by simp) _).alloc (by simp; omega) _).trans (hb.mono (by simp; omega))
  have k5 : IAt w1 (some ⟨w.heap.size, 0, none⟩) [1, 3, 2] := k1.below hb
  have hsz := hb.size
  simp only [World.size_alloc] at hsz
  rw [World.size_alloc, World.size_alloc, World.size_alloc] at hown
  have hown' : w1.ownsRow (w.heap.size + 1 + 1 + 1) 3 1 v1 ([1, 3, 2, 4] : List Int).length (icells [1, 3, 2, 4]) := hown
  clear k1 k2 k3 hown hb
  obtain ⟨A, c, rfl, hA⟩ := iat_of_own hown'
  clear hown'
  go_wp2_with fail
  have j0 : ∀ j, ((w1.alloc (.cells #[.int .i64 3, .int .i64 2] 3)).alloc (.cells #[.slice A 4 c, .slice (some ⟨w.heap.size, 0, none⟩) 3 3, .slice (some ⟨w1.heap.size, 0, none⟩) 2 2] 156)).cell? ⟨w1.heap.size + 1, j, none⟩ = (#[.slice A 4 c, .slice (some ⟨w.heap.size, 0, none⟩) 3 3, .slice (some ⟨w1.heap.size, 0, none⟩) 2 2] : Array Value)[j]? := fun j => by
    have := new_cell (w1.alloc (.cells #[.int .i64 3, .int .i64 2] 3)) #[.slice A 4 c, .slice (some ⟨w.heap.size, 0, none⟩) 3 3, .slice (some ⟨w1.heap.size, 0, none⟩) 2 2] 156 j
    rw [World.size_alloc] at this
    exact this
  have j1 : IAt ((w1.alloc (.cells #[.int .i64 3, .int .i64 2] 3)).alloc (.cells #[.slice A 4 c, .slice (some ⟨w.heap.size, 0, none⟩) 3 3, .slice (some ⟨w1.heap.size, 0, none⟩) 2 2] 156)) A [1, 3, 2, 4] := iat_alloc (iat_alloc hA _) _
  have j2 : IAt ((w1.alloc (.cells #[.int .i64 3, .int .i64 2] 3)).alloc (.cells #[.slice A 4 c, .slice (some ⟨w.heap.size, 0, none⟩) 3 3, .slice (some ⟨w1.heap.size, 0, none⟩) 2 2] 156)) (some ⟨w.heap.size, 0, none⟩) [1, 3, 2] := iat_alloc (iat_alloc k5 _) _
  have j3 : IAt ((w1.alloc (.cells #[.int .i64 3, .int .i64 2] 3)).alloc (.cells #[.slice A 4 c, .slice (some ⟨w.heap.size, 0, none⟩) 3 3, .slice (some ⟨w1.heap.size, 0, none⟩) 2 2] 156)) (some ⟨w1.heap.size, 0, none⟩) [3, 2] := iat_alloc (iat_new w1 [3, 2] _) _
  refine (concatI (w1.heap.size + 1) 3 [⟨A, c, [1, 3, 2, 4]⟩, ⟨some ⟨w.heap.size, 0, none⟩, 3, [1, 3, 2]⟩, ⟨some ⟨w1.heap.size, 0, none⟩, 2, [3, 2]⟩] _ (by simp) (by simp) (by simp) (fun j hj => by rw [j0]; match j, hj with | 0, _ => rfl | 1, _ => rfl | 2, _ => rfl) (by simp only [List.mem_cons, List.not_mem_nil, or_false]; rintro r (rfl | rfl | rfl); exact j1; exact j2; exact j3)).mono ?_
  rintro e w2 ⟨v2, rfl, hown2, hb2⟩
  have hb3 := hb2.mono (B' := w.heap.size) (by simp; omega)
  have hbel : Below w.heap.size w w2 := ((hb0.alloc hb0.size _).alloc (by simp; omega) _).trans hb3
  clear j0 j1 j2 j3 k5 hA
  go_wp2_with fail
  go_ret
  exact ⟨_, rfl, own_base hown2 (by simp; omega), hbel⟩
set_option maxHeartbeats 1000000 in
set_option maxRecDepth 100000 in
theorem shapeOf4 (w : World) : Calls Tryz.prog 243 #[.int .i64 4] w (IPost (shapeK 4) w) := by
  go_enter Tryz.func243, Tryz.ntmps243
  go_wp2_with fail
  have k1 : IAt (((w.alloc (.cells #[.int .i64 1, .int .i64 3, .int .i64 2] 3)).alloc (.cells #[.int .i64 4] 3)).alloc (.cells #[.slice (some ⟨w.heap.size, 0, none⟩) 3 3, .slice (some ⟨w.heap.size + 1, 0, none⟩) 1 1] 156)) (some ⟨w.heap.size, 0, none⟩) [1, 3, 2] := iat_alloc (iat_alloc (iat_new w [1, 3, 2] _) _) _
  have k2 : IAt (((w.alloc (.cells #[.int .i64 1, .int .i64 3, .int .i64 2] 3)).alloc (.cells #[.int .i64 4] 3)).alloc (.cells #[.slice (some ⟨w.heap.size, 0, none⟩) 3 3, .slice (some ⟨w.heap.size + 1, 0, none⟩) 1 1] 156)) (some ⟨w.heap.size + 1, 0, none⟩) [4] := by
    have := iat_new (w.alloc (.cells #[.int .i64 1, .int .i64 3, .int .i64 2] 3)) [4] 3
    rw [World.size_alloc] at this
    exact iat_alloc this _
  have k3 : ∀ j, (((w.alloc (.cells #[.int .i64 1, .int .i64 3, .int .i64 2] 3)).alloc (.cells #[.int .i64 4] 3)).alloc (.cells #[.slice (some ⟨w.heap.size, 0, none⟩) 3 3, .slice (some ⟨w.heap.size + 1, 0, none⟩) 1 1] 156)).cell? ⟨w.heap.size + 1 + 1, j, none⟩ = (#[.slice (some ⟨w.heap.size, 0, none⟩) 3 3, .slice (some ⟨w.heap.size + 1, 0, none⟩) 1 1] : Array Value)[j]? := fun j => by
    have := new_cell ((w.alloc (.cells #[.int .i64 1, .int .i64 3, .int .i64 2] 3)).alloc (.cells #[.int .i64 4] 3)) #[.slice (some ⟨w.heap.size, 0, none⟩) 3 3, .slice (some ⟨w.heap.size + 1, 0, none⟩) 1 1] 156 j
    rw [World.size_alloc, World.size_alloc] at this
    exact this
  refine (concatI (w.heap.size + 1 + 1) 2 [⟨some ⟨w.heap.size, 0, none⟩, 3, [1, 3, 2]⟩, ⟨some ⟨w.heap.size + 1, 0, none⟩, 1, [4]⟩] _ (by simp) (by simp) (by simp) (fun j hj => by rw [k3]; match j, hj with | 0, _ => rfl | 1, _ => rfl) (by simp only [List.mem_cons, List.not_mem_nil, or_false]; rintro r (rfl | rfl); exact k1; exact k2)).mono ?_
  rintro e w1 ⟨v1, rfl, hown, hb⟩
  have hb0 : Below w.heap.size w w1 := ((((Below.refl _ _).alloc (Nat.le_refl _) _).alloc (by simp) _).alloc (by simp; omega) _).trans (hb.mono (by simp; omega))
  have k5 : IAt w1 (some ⟨w.heap.size, 0, none⟩) [1, 3, 2] := k1.below hb
  have hsz := hb.size
  simp only [World.size_alloc] at hsz
  rw [World.size_alloc, World.size_alloc, World.size_alloc] at hown
  have hown' : w1.ownsRow (w.heap.size + 1 + 1 + 1) 3 1 v1 ([1, 3, 2, 4] : List Int).length (icells [1, 3, 2, 4]) := hown
  clear k1 k2 k3 hown hb
  obtain ⟨A, c, rfl, hA⟩ := iat_of_own hown'
  clear hown'
  go_wp2_with fail
  have j0 : ∀ j, ((w1.alloc (.cells #[.int .i64 5] 3)).alloc (.cells #[.slice A 4 c, .slice (some ⟨w.heap.size, 0, none⟩) 3 3, .slice (some ⟨w1.heap.size, 0, none⟩) 1 1, .slice (some ⟨w.heap.size, 0, none⟩) 3 3] 156)).cell? ⟨w1.heap.size + 1, j, none⟩ = (#[.slice A 4 c, .slice (some ⟨w.heap.size, 0, none⟩) 3 3, .slice (some ⟨w1.heap.size, 0, none⟩) 1 1, .slice (some ⟨w.heap.size, 0, none⟩) 3 3] : Array Value)[j]? := fun j => by
    have := new_cell (w1.alloc (.cells #[.int .i64 5] 3)) #[.slice A 4 c, .slice (some ⟨w.heap.size, 0, none⟩) 3 3, .slice (some ⟨w1.heap.size, 0, none⟩) 1 1, .slice (some ⟨w.heap.size, 0, none⟩) 3 3] 156 j
    rw [World.size_alloc] at this
    exact this
  have j1 : IAt ((w1.alloc (.cells #[.int .i64 5] 3)).alloc (.cells #[.slice A 4 c, .slice (some ⟨w.heap.size, 0, none⟩) 3 3, .slice (some ⟨w1.heap.size, 0, none⟩) 1 1, .slice (some ⟨w.heap.size, 0, none⟩) 3 3] 156)) A [1, 3, 2, 4] := iat_alloc (iat_alloc hA _) _
  have j2 : IAt ((w1.alloc (.cells #[.int .i64 5] 3)).alloc (.cells #[.slice A 4 c, .slice (some ⟨w.heap.size, 0, none⟩) 3 3, .slice (some ⟨w1.heap.size, 0, none⟩) 1 1, .slice (some ⟨w.heap.size, 0, none⟩) 3 3] 156)) (some ⟨w.heap.size, 0, none⟩) [1, 3, 2] := iat_alloc (iat_alloc k5 _) _
  have j3 : IAt ((w1.alloc (.cells #[.int .i64 5] 3)).alloc (.cells #[.slice A 4 c, .slice (some ⟨w.heap.size, 0, none⟩) 3 3, .slice (some ⟨w1.heap.size, 0, none⟩) 1 1, .slice (some ⟨w.heap.size, 0, none⟩) 3 3] 156)) (some ⟨w1.heap.size, 0, none⟩) [5] := iat_alloc (iat_new w1 [5] _) _
  refine (concatI (w1.heap.size + 1) 4 [⟨A, c, [1, 3, 2, 4]⟩, ⟨some ⟨w.heap.size, 0, none⟩, 3, [1, 3, 2]⟩, ⟨some ⟨w1.heap.size, 0, none⟩, 1, [5]⟩, ⟨some ⟨w.heap.size, 0, none⟩, 3, [1, 3, 2]⟩] _ (by simp) (by simp) (by simp) (fun j hj => by rw [j0]; match j, hj with | 0, _ => rfl | 1, _ => rfl | 2, _ => rfl | 3, _ => rfl) (by simp only [List.mem_cons, List.not_mem_nil, or_false]; rintro r (rfl | rfl | rfl | rfl); exact j1; exact j2; exact j3; exact j2)).mono ?_
  rintro e w2 ⟨v2, rfl, hown2, hb2⟩
  have hb3 := hb2.mono (B' := w.heap.size) (by simp; omega)
  have hbel : Below w.heap.size w w2 := ((hb0.alloc hb0.size _).alloc (by simp; omega) _).trans hb3
  clear j0 j1 j2 j3 k5 hA
  go_wp2_with fail
  go_ret
  exact ⟨_, rfl, own_base hown2 (by simp; omega), hbel⟩
theorem shapeOf (k : Nat) (h1 : 1 ≤ k) (h4 : k ≤ 4) (w : World) : Calls Tryz.prog 243 #[.int .i64 k] w (IPost (shapeK k) w) := by
  match k, h1, h4 with
  | 1, _, _ => exact shapeOf1 w
  | 2, _, _ => exact shapeOf2 w
  | 3, _, _ => exact shapeOf3 w
  | 4, _, _ => exact shapeOf4 w
end Go.Proofs.YtkmonmpfbchffaaGreat.SynH
/- The normal form of a statement, in the program and in the document's answers. -/
namespace Go.Proofs.YtkmonmpfbchffaaGreat.Syn6
set_option linter.unusedVariables false
set_option linter.unusedSimpArgs false
open Go.RowKit Go.Sort Go.Proofs Go.Proofs.YtkmonmpfbchffaaGreat.Plain Go.Proofs.YtkmonmpfbchffaaGreat.SynP Go.Proofs.YtkmonmpfbchffaaGreat.Named Go.Proofs.YtkmonmpfbchffaaGreat.RefN Go.Proofs.YtkmonmpfbchffaaGreat.Grown Go.Proofs.YtkmonmpfbchffaaGreat.Syn1 Go.Proofs.YtkmonmpfbchffaaGreat.Syn2 Go.Proofs.YtkmonmpfbchffaaGreat.Syn3 Go.Proofs.YtkmonmpfbchffaaGreat.Syn4
set_option linter.unusedSimpArgs false
set_option linter.unusedVariables false
set_option maxRecDepth 100000 in
theorem normal_true (ho hn wh ao an bo bn v : ByteArray) (w : World) (h : decide (cmpR ⟨bo, bn⟩ ⟨ao, an⟩ < 0) = true) : Calls Tryz.prog 78 #[.agg #[.int .i64 4, .string ho, .string hn, .string wh, .string ao, .string an, .string bo, .string bn, .string v]] w fun e w' => e = .returned (.agg #[.int .i64 4, .string ho, .string hn, .string wh, .string bo, .string bn, .string ao, .string an, .string v]) ∧ Grew w w' := by
  have HL := Lib.hid (less' bo bn ao an)
  rw [h] at HL
  clear h
  go_enter Tryz.func78, Tryz.ntmps78
  go_wp2_with fail
  refine (HL.out _).mono ?_
  rintro e w1 ⟨rfl, hg⟩
  obtain ⟨⟨n, os⟩, rfl⟩ := hg
  have gS := grow_set n os
  have gC := grow_cell n os
  have gF := grow_frozen n os
  have gZ := grow_size n os
  have z1 : w.heap.size < w.heap.size + 1 + 1 + os.size := by omega
  have z2 : w.heap.size + 1 < w.heap.size + 1 + 1 + os.size := by omega
  go_wp2_with fail
  refine bodyPost_ret (v := .agg #[.int .i64 4, .string ho, .string hn, .string wh, .string bo, .string bn, .string ao, .string an, .string v]) (by simp [results, Tryz.results78, go_sem, gS, gC, gF, gZ, z1, z2]) rfl ⟨rfl, ?_⟩
  exact (((Grew.refl _).alloc _).alloc _).trans (Grew.mk _ n os)
set_option maxRecDepth 100000 in
theorem normal_false (ho hn wh ao an bo bn v : ByteArray) (w : World) (h : decide (cmpR ⟨bo, bn⟩ ⟨ao, an⟩ < 0) = false) : Calls Tryz.prog 78 #[.agg #[.int .i64 4, .string ho, .string hn, .string wh, .string ao, .string an, .string bo, .string bn, .string v]] w fun e w' => e = .returned (.agg #[.int .i64 4, .string ho, .string hn, .string wh, .string ao, .string an, .string bo, .string bn, .string v]) ∧ Grew w w' := by
  have HL := Lib.hid (less' bo bn ao an)
  rw [h] at HL
  clear h
  go_enter Tryz.func78, Tryz.ntmps78
  go_wp2_with fail
  refine (HL.out _).mono ?_
  rintro e w1 ⟨rfl, hg⟩
  obtain ⟨⟨n, os⟩, rfl⟩ := hg
  have gS := grow_set n os
  have gC := grow_cell n os
  have gF := grow_frozen n os
  have gZ := grow_size n os
  have z1 : w.heap.size < w.heap.size + 1 + 1 + os.size := by omega
  have z2 : w.heap.size + 1 < w.heap.size + 1 + 1 + os.size := by omega
  go_wp2_with fail
  refine bodyPost_ret (v := .agg #[.int .i64 4, .string ho, .string hn, .string wh, .string ao, .string an, .string bo, .string bn, .string v]) (by simp [results, Tryz.results78, go_sem, gS, gC, gF, gZ, z1, z2]) rfl ⟨rfl, ?_⟩
  exact (((Grew.refl _).alloc _).alloc _).trans (Grew.mk _ n os)
set_option maxRecDepth 100000 in
theorem normal_other (k : Int) (ho hn wh ao an bo bn v : ByteArray) (w : World) (h : (k == 4) = false) : Calls Tryz.prog 78 #[.agg #[.int .i64 k, .string ho, .string hn, .string wh, .string ao, .string an, .string bo, .string bn, .string v]] w fun e w' => e = .returned (.agg #[.int .i64 k, .string ho, .string hn, .string wh, .string ao, .string an, .string bo, .string bn, .string v]) ∧ Grew w w' := by
  go_enter Tryz.func78, Tryz.ntmps78
  go_wp2_with fail
  exact bodyPost_ret (v := .agg #[.int .i64 k, .string ho, .string hn, .string wh, .string ao, .string an, .string bo, .string bn, .string v]) (by simp [results, Tryz.results78, go_sem]) rfl ⟨rfl, ((Grew.refl _).alloc _).alloc _⟩
theorem normal (s : St) (w : World) : Calls Tryz.prog 78 #[s.val] w fun e w' => e = .returned s.normal.val ∧ Grew w w' := by
  obtain ⟨k1, ⟨ho, hn⟩, wh, ⟨ao, an⟩, ⟨bo, bn⟩, v⟩ := s
  by_cases hk : k1 = 4
  · subst hk
    by_cases hc : cmpR ⟨bo, bn⟩ ⟨ao, an⟩ < 0
    · have : St.normal ⟨4, ⟨ho, hn⟩, wh, ⟨ao, an⟩, ⟨bo, bn⟩, v⟩ = ⟨4, ⟨ho, hn⟩, wh, ⟨bo, bn⟩, ⟨ao, an⟩, v⟩ := if_pos ⟨rfl, hc⟩
      rw [this]
      exact normal_true ho hn wh ao an bo bn v w (decide_eq_true hc)
    · have : St.normal ⟨4, ⟨ho, hn⟩, wh, ⟨ao, an⟩, ⟨bo, bn⟩, v⟩ = ⟨4, ⟨ho, hn⟩, wh, ⟨ao, an⟩, ⟨bo, bn⟩, v⟩ := if_neg (fun e => hc e.2)
      rw [this]
      exact normal_false ho hn wh ao an bo bn v w (decide_eq_false hc)
  · have : St.normal ⟨k1, ⟨ho, hn⟩, wh, ⟨ao, an⟩, ⟨bo, bn⟩, v⟩ = ⟨k1, ⟨ho, hn⟩, wh, ⟨ao, an⟩, ⟨bo, bn⟩, v⟩ := if_neg (fun e => hk e.1)
    rw [this]
    exact normal_other k1 ho hn wh ao an bo bn v w (by simpa using hk)
set_option maxRecDepth 100000 in
theorem normalRef_true (ho hn wh ao an bo bn v : ByteArray) (w : World) (h : decide (cmpR ⟨bo, bn⟩ ⟨ao, an⟩ < 0) = true) : Calls Tryz.prog 81 #[.agg #[.int .i64 4, .string ho, .string hn, .string wh, .string ao, .string an, .string bo, .string bn, .string v]] w fun e w' => e = .returned (.agg #[.int .i64 4, .string ho, .string hn, .string wh, .string bo, .string bn, .string ao, .string an, .string v]) ∧ Grew w w' := by
  have HL := Lib.hid (lessRef' bo bn ao an)
  rw [h] at HL
  clear h
  go_enter Tryz.func81, Tryz.ntmps81
  go_wp2_with fail
  refine (HL.out _).mono ?_
  rintro e w1 ⟨rfl, hg⟩
  obtain ⟨⟨n, os⟩, rfl⟩ := hg
  have gS := grow_set n os
  have gC := grow_cell n os
  have gF := grow_frozen n os
  have gZ := grow_size n os
  have z1 : w.heap.size < w.heap.size + 1 + 1 + os.size := by omega
  have z2 : w.heap.size + 1 < w.heap.size + 1 + 1 + os.size := by omega
  go_wp2_with fail
  refine bodyPost_ret (v := .agg #[.int .i64 4, .string ho, .string hn, .string wh, .string bo, .string bn, .string ao, .string an, .string v]) (by simp [results, Tryz.results81, go_sem, gS, gC, gF, gZ, z1, z2]) rfl ⟨rfl, ?_⟩
  exact ((((Grew.refl _).alloc _).alloc _).trans (Grew.mk _ n os)).alloc _
set_option maxRecDepth 100000 in
theorem normalRef_false (ho hn wh ao an bo bn v : ByteArray) (w : World) (h : decide (cmpR ⟨bo, bn⟩ ⟨ao, an⟩ < 0) = false) : Calls Tryz.prog 81 #[.agg #[.int .i64 4, .string ho, .string hn, .string wh, .string ao, .string an, .string bo, .string bn, .string v]] w fun e w' => e = .returned (.agg #[.int .i64 4, .string ho, .string hn, .string wh, .string ao, .string an, .string bo, .string bn, .string v]) ∧ Grew w w' := by
  have HL := Lib.hid (lessRef' bo bn ao an)
  rw [h] at HL
  clear h
  go_enter Tryz.func81, Tryz.ntmps81
  go_wp2_with fail
  refine (HL.out _).mono ?_
  rintro e w1 ⟨rfl, hg⟩
  obtain ⟨⟨n, os⟩, rfl⟩ := hg
  have gS := grow_set n os
  have gC := grow_cell n os
  have gF := grow_frozen n os
  have gZ := grow_size n os
  have z1 : w.heap.size < w.heap.size + 1 + 1 + os.size := by omega
  have z2 : w.heap.size + 1 < w.heap.size + 1 + 1 + os.size := by omega
  go_wp2_with fail
  refine bodyPost_ret (v := .agg #[.int .i64 4, .string ho, .string hn, .string wh, .string ao, .string an, .string bo, .string bn, .string v]) (by simp [results, Tryz.results81, go_sem, gS, gC, gF, gZ, z1, z2]) rfl ⟨rfl, ?_⟩
  exact (((Grew.refl _).alloc _).alloc _).trans (Grew.mk _ n os)
set_option maxRecDepth 100000 in
theorem normalRef_other (k : Int) (ho hn wh ao an bo bn v : ByteArray) (w : World) (h : (k == 4) = false) : Calls Tryz.prog 81 #[.agg #[.int .i64 k, .string ho, .string hn, .string wh, .string ao, .string an, .string bo, .string bn, .string v]] w fun e w' => e = .returned (.agg #[.int .i64 k, .string ho, .string hn, .string wh, .string ao, .string an, .string bo, .string bn, .string v]) ∧ Grew w w' := by
  go_enter Tryz.func81, Tryz.ntmps81
  go_wp2_with fail
  exact bodyPost_ret (v := .agg #[.int .i64 k, .string ho, .string hn, .string wh, .string ao, .string an, .string bo, .string bn, .string v]) (by simp [results, Tryz.results81, go_sem]) rfl ⟨rfl, ((Grew.refl _).alloc _).alloc _⟩
theorem normalRef (s : St) (w : World) : Calls Tryz.prog 81 #[s.val] w fun e w' => e = .returned s.normal.val ∧ Grew w w' := by
  obtain ⟨k1, ⟨ho, hn⟩, wh, ⟨ao, an⟩, ⟨bo, bn⟩, v⟩ := s
  by_cases hk : k1 = 4
  · subst hk
    by_cases hc : cmpR ⟨bo, bn⟩ ⟨ao, an⟩ < 0
    · have : St.normal ⟨4, ⟨ho, hn⟩, wh, ⟨ao, an⟩, ⟨bo, bn⟩, v⟩ = ⟨4, ⟨ho, hn⟩, wh, ⟨bo, bn⟩, ⟨ao, an⟩, v⟩ := if_pos ⟨rfl, hc⟩
      rw [this]
      exact normalRef_true ho hn wh ao an bo bn v w (decide_eq_true hc)
    · have : St.normal ⟨4, ⟨ho, hn⟩, wh, ⟨ao, an⟩, ⟨bo, bn⟩, v⟩ = ⟨4, ⟨ho, hn⟩, wh, ⟨ao, an⟩, ⟨bo, bn⟩, v⟩ := if_neg (fun e => hc e.2)
      rw [this]
      exact normalRef_false ho hn wh ao an bo bn v w (decide_eq_false hc)
  · have : St.normal ⟨k1, ⟨ho, hn⟩, wh, ⟨ao, an⟩, ⟨bo, bn⟩, v⟩ = ⟨k1, ⟨ho, hn⟩, wh, ⟨ao, an⟩, ⟨bo, bn⟩, v⟩ := if_neg (fun e => hk e.1)
    rw [this]
    exact normalRef_other k1 ho hn wh ao an bo bn v w (by simpa using hk)
end Go.Proofs.YtkmonmpfbchffaaGreat.Syn6
/- A line as a statement, in the program. -/
namespace Go.Proofs.YtkmonmpfbchffaaGreat.SynX
set_option linter.unusedVariables false
set_option linter.unusedSimpArgs false
open Go.RowKit Go.Sort Go.Proofs Go.Proofs.YtkmonmpfbchffaaGreat.Plain Go.Proofs.YtkmonmpfbchffaaGreat.SynP Go.Proofs.YtkmonmpfbchffaaGreat.SynQ Go.Proofs.YtkmonmpfbchffaaGreat.Grown Go.Proofs.YtkmonmpfbchffaaGreat.SynA Go.Proofs.YtkmonmpfbchffaaGreat.SynC Go.Proofs.YtkmonmpfbchffaaGreat.SynR Go.Proofs.YtkmonmpfbchffaaGreat.SynW Go.Proofs.YtkmonmpfbchffaaGreat.Scan3 Go.Proofs.YtkmonmpfbchffaaGreat.Scan5 Go.Proofs.YtkmonmpfbchffaaGreat.Syn4 Go.Proofs.YtkmonmpfbchffaaGreat.SynS Go.Proofs.YtkmonmpfbchffaaGreat.SynG Go.Proofs.YtkmonmpfbchffaaGreat.SynU Go.Proofs.YtkmonmpfbchffaaGreat.SynV
set_option linter.unusedVariables false
set_option linter.unusedSimpArgs false
theorem len_of_kinds {L : List Tk} {l : List Int} (h : kindsOf L = l) : L.length = l.length := by rw [← h, kinds_len]
theorem kind_at {L : List Tk} {l : List Int} (h : kindsOf L = l) (i : Nat) (hi : i < L.length) : L[i].kind = l[i]'(by rw [← len_of_kinds h]; exact hi) := by
  subst h
  exact (List.getElem_map ..).symm
theorem stmt1 (A : Option Addr) (ca : Nat) (L : List Tk) (w : World) (hca : L.length ≤ ca) (hk : kindsOf L = shapeK 1) (hg : ∀ t ∈ L, goodTk t) (hs : SmallTk L) (hA : TkAt w A L) :
    Calls Tryz.prog 245 #[.int .i64 1, .slice A L.length ca] w (StmtPost (stmtOf 1 L) w) := by
  have hl : L.length = 5 := len_of_kinds hk
  match L, hl, hca, hk, hg, hs, hA with
  | [t0, t1, t2, t3, t4], _, hca, hk, hg, hs, hA => exact statement1 A ca t0 t1 t2 t3 t4 w hca hs (hg t0 (by simp)) (hg t1 (by simp)) (hg t2 (by simp)) (kind_at hk 0 (by simp)) (kind_at hk 1 (by simp)) (kind_at hk 2 (by simp)) hA
theorem stmt2 (A : Option Addr) (ca : Nat) (L : List Tk) (w : World) (hca : L.length ≤ ca) (hk : kindsOf L = shapeK 2) (hg : ∀ t ∈ L, goodTk t) (hs : SmallTk L) (hA : TkAt w A L) :
    Calls Tryz.prog 245 #[.int .i64 2, .slice A L.length ca] w (StmtPost (stmtOf 2 L) w) := by
  have hl : L.length = 7 := len_of_kinds hk
  match L, hl, hca, hk, hg, hs, hA with
  | [t0, t1, t2, t3, t4, t5, t6], _, hca, hk, hg, hs, hA => exact statement2 A ca t0 t1 t2 t3 t4 t5 t6 w hca hs (hg t0 (by simp)) (hg t1 (by simp)) (hg t2 (by simp)) (kind_at hk 0 (by simp)) (kind_at hk 1 (by simp)) (kind_at hk 2 (by simp)) (hg t4 (by simp)) (hg t5 (by simp)) (hg t6 (by simp)) (kind_at hk 4 (by simp)) (kind_at hk 5 (by simp)) (kind_at hk 6 (by simp)) hA
theorem stmt3 (A : Option Addr) (ca : Nat) (L : List Tk) (w : World) (hca : L.length ≤ ca) (hk : kindsOf L = shapeK 3) (hg : ∀ t ∈ L, goodTk t) (hs : SmallTk L) (hA : TkAt w A L) :
    Calls Tryz.prog 245 #[.int .i64 3, .slice A L.length ca] w (StmtPost (stmtOf 3 L) w) := by
  have hl : L.length = 9 := len_of_kinds hk
  match L, hl, hca, hk, hg, hs, hA with
  | [t0, t1, t2, t3, t4, t5, t6, t7, t8], _, hca, hk, hg, hs, hA => exact statement3 A ca t0 t1 t2 t3 t4 t5 t6 t7 t8 w hca hs (hg t0 (by simp)) (hg t1 (by simp)) (hg t2 (by simp)) (kind_at hk 0 (by simp)) (kind_at hk 1 (by simp)) (kind_at hk 2 (by simp)) (hg t4 (by simp)) (hg t5 (by simp)) (hg t6 (by simp)) (kind_at hk 4 (by simp)) (kind_at hk 5 (by simp)) (kind_at hk 6 (by simp)) hA
theorem stmt4 (A : Option Addr) (ca : Nat) (L : List Tk) (w : World) (hca : L.length ≤ ca) (hk : kindsOf L = shapeK 4) (hg : ∀ t ∈ L, goodTk t) (hs : SmallTk L) (hA : TkAt w A L) :
    Calls Tryz.prog 245 #[.int .i64 4, .slice A L.length ca] w (StmtPost (stmtOf 4 L) w) := by
  have hl : L.length = 11 := len_of_kinds hk
  match L, hl, hca, hk, hg, hs, hA with
  | [t0, t1, t2, t3, t4, t5, t6, t7, t8, t9, t10], _, hca, hk, hg, hs, hA => exact statement4 A ca t0 t1 t2 t3 t4 t5 t6 t7 t8 t9 t10 w hca hs (hg t0 (by simp)) (hg t1 (by simp)) (hg t2 (by simp)) (kind_at hk 0 (by simp)) (kind_at hk 1 (by simp)) (kind_at hk 2 (by simp)) (hg t4 (by simp)) (hg t5 (by simp)) (hg t6 (by simp)) (kind_at hk 4 (by simp)) (kind_at hk 5 (by simp)) (kind_at hk 6 (by simp)) (hg t8 (by simp)) (hg t9 (by simp)) (hg t10 (by simp)) (kind_at hk 8 (by simp)) (kind_at hk 9 (by simp)) (kind_at hk 10 (by simp)) hA
theorem stmt (k : Nat) (h1 : 1 ≤ k) (h4 : k ≤ 4) (A : Option Addr) (ca : Nat) (L : List Tk) (w : World) (hca : L.length ≤ ca) (hk : kindsOf L = shapeK k) (hg : ∀ t ∈ L, goodTk t) (hs : SmallTk L) (hA : TkAt w A L) :
    Calls Tryz.prog 245 #[.int .i64 k, .slice A L.length ca] w (StmtPost (stmtOf k L) w) := by
  match k, h1, h4, hk with
  | 1, _, _, hk => exact stmt1 A ca L w hca hk hg hs hA
  | 2, _, _, hk => exact stmt2 A ca L w hca hk hg hs hA
  | 3, _, _, hk => exact stmt3 A ca L w hca hk hg hs hA
  | 4, _, _, hk => exact stmt4 A ca L w hca hk hg hs hA
/-- The first shape that a line's tokens have is the only one. -/
theorem parseL_hit {L : List Tk} {k : Nat} (h1 : 1 ≤ k) (h4 : k ≤ 4) (hk : kindsOf L = shapeK k) : parseL L = ((stmtOf k L).normal, 0, 0) := by
  unfold parseL
  match k, h1, h4, hk with
  | 1, _, _, hk => rw [if_pos hk]
  | 2, _, _, hk => rw [if_neg (by rw [hk]; decide), if_pos hk]
  | 3, _, _, hk => rw [if_neg (by rw [hk]; decide), if_neg (by rw [hk]; decide), if_pos hk]
  | 4, _, _, hk => rw [if_neg (by rw [hk]; decide), if_neg (by rw [hk]; decide), if_neg (by rw [hk]; decide), if_pos hk]
theorem parseL_miss {L : List Tk} (h : ∀ j, j < 4 → kindsOf L ≠ shapeK (j + 1)) : parseL L = if bestOf L 4 < L.length then (zeroS, (colAt L (bestOf L 4) : Int), 2) else (zeroS, (behindOf L : Int), 3) := by
  unfold parseL
  rw [if_neg (h 0 (by omega)), if_neg (h 1 (by omega)), if_neg (h 2 (by omega)), if_neg (h 3 (by omega))]
theorem best_le (L : List Tk) : ∀ k, bestOf L k ≤ L.length
  | 0 => Nat.zero_le _
  | k + 1 => by
    have := best_le L k
    have h2 := agree_le1 (kindsOf L) (shapeK (k + 1))
    rw [kinds_len] at h2
    unfold bestOf; omega
theorem shape_len (k : Nat) : (shapeK k).length ≤ 11 := by
  unfold shapeK; split <;> simp
theorem ans_bad {s : ByteArray} {c : Nat} {e : Int} (h : ansOf s = .bad c e) : e = 1 ∨ e = 4 := by
  unfold ansOf at h
  split at h
  · injection h with _ h; exact .inr h.symm
  · revert h
    generalize bare s = t
    have : ∀ (n k : Nat) (L : List Tk), t.size - k ≤ n → tkRun t k L = .bad c e → e = 1 ∨ e = 4 := by
      intro n
      induction n with
      | zero => intro k L hn h; rw [tkRun_end (by omega)] at h; cases h
      | succ n ih =>
        intro k L hn h
        by_cases hk : k < t.size
        · cases hs : tkStep t k hk with
          | skip => rw [tkRun_skip hk hs] at h; exact ih _ _ (by omega) h
          | tok kind m => rw [tkRun_tok hk hs] at h; exact ih _ _ (by omega) h
          | bad e' =>
            rw [tkRun_bad hk hs] at h
            injection h with _ h
            subst h
            unfold tkStep at hs
            split at hs
            · cases hs
            split at hs
            · split at hs <;> first | (cases hs; done) | (injection hs with hs; exact .inr hs.symm)
            split at hs
            · split at hs <;> first | (cases hs; done) | (injection hs with hs; exact .inr hs.symm)
            split at hs
            · cases hs
            split at hs
            · cases hs
            split at hs
            · cases hs
            · injection hs with hs; exact .inl hs.symm
        · rw [tkRun_end hk] at h; cases h
    exact this t.size 0 [] (by omega)
end Go.Proofs.YtkmonmpfbchffaaGreat.SynX
/- A line as a query, in the program, by contract. -/
namespace Go.Proofs.YtkmonmpfbchffaaGreat.QryE
set_option linter.unusedVariables false
set_option linter.unusedSimpArgs false
open Go.RowKit Go.Sort Go.Proofs Go.Proofs.YtkmonmpfbchffaaGreat.Plain Go.Proofs.YtkmonmpfbchffaaGreat.SynP Go.Proofs.YtkmonmpfbchffaaGreat.SynQ Go.Proofs.YtkmonmpfbchffaaGreat.TabP Go.Proofs.YtkmonmpfbchffaaGreat.Tab1 Go.Proofs.YtkmonmpfbchffaaGreat.Grown Go.Proofs.YtkmonmpfbchffaaGreat.Scan3 Go.Proofs.YtkmonmpfbchffaaGreat.SynA Go.Proofs.YtkmonmpfbchffaaGreat.SynC Go.Proofs.YtkmonmpfbchffaaGreat.SynR Go.Proofs.YtkmonmpfbchffaaGreat.SynS Go.Proofs.YtkmonmpfbchffaaGreat.SynU Go.Proofs.YtkmonmpfbchffaaGreat.SynV Go.Proofs.YtkmonmpfbchffaaGreat.SynX Go.Proofs.YtkmonmpfbchffaaGreat.QryP Go.Proofs.YtkmonmpfbchffaaGreat.Qry4 Go.Proofs.YtkmonmpfbchffaaGreat.Qry5 Go.Proofs.YtkmonmpfbchffaaGreat.Qry6 Go.Proofs.YtkmonmpfbchffaaGreat.Qry7 Go.Proofs.YtkmonmpfbchffaaGreat.QryA Go.Proofs.YtkmonmpfbchffaaGreat.QryB Go.Proofs.YtkmonmpfbchffaaGreat.QryC Go.Proofs.YtkmonmpfbchffaaGreat.QryD
set_option linter.unusedVariables false
set_option linter.unusedSimpArgs false
theorem kinds3 {k : Int} (h1 : 1 ≤ k) (h6 : k ≤ 6) : (k = 1 ∨ k = 2 ∨ k = 3) ∨ k = 4 ∨ (k = 5 ∨ k = 6) := by omega
theorem read (k : Int) (h1 : 1 ≤ k) (h6 : k ≤ 6) (A : Option Addr) (ca : Nat) (L : List Tk) (w : World) (hL : L.length ≤ 1000) (hca : L.length ≤ ca) (hs : SmallTk L) (hg : ∀ t ∈ L, goodTk t) (hA : TkAt w A L) :
    Calls Tryz.prog 40 #[.int .i64 k, .slice A L.length ca] w (ReadPost (readQ k L) w) := by
  by_cases h : agreeF L (shapeF k) = (shapeF k).length
  · have h0 := h
    rcases kinds3 h1 h6 with hk | rfl | hk
    · obtain ⟨s, hw, hsh, hB, hW⟩ := shape3 hk
      rw [hsh] at h
      obtain ⟨t0, L1, rfl, a0, h⟩ := agreeF_cons h
      obtain ⟨t1, L2, rfl, a1, h⟩ := agreeF_cons h
      obtain ⟨t2, L3, rfl, a2, h⟩ := agreeF_cons h
      obtain ⟨t3, L4, rfl, a3, h⟩ := agreeF_cons h
      obtain ⟨t4, L5, rfl, a4, h⟩ := agreeF_cons h
      exact read3 k hk A ca _ t0 t1 t2 t3 t4 L5 w (by simp) hL hca hs (hg t1 (by simp)) (hg t2 (by simp)) (hg t3 (by simp)) (fitsK a1) (fitsK a2) (fitsK a3) hA (by rw [h0, hsh]; rfl)
    · obtain ⟨hsh, hB, hW⟩ := shape4
      rw [hsh] at h
      obtain ⟨t0, L1, rfl, a0, h⟩ := agreeF_cons h
      obtain ⟨t1, L2, rfl, a1, h⟩ := agreeF_cons h
      obtain ⟨t2, L3, rfl, a2, h⟩ := agreeF_cons h
      obtain ⟨t3, L4, rfl, a3, h⟩ := agreeF_cons h
      obtain ⟨t4, L5, rfl, a4, h⟩ := agreeF_cons h
      obtain ⟨t5, L6, rfl, a5, h⟩ := agreeF_cons h
      exact read4 A ca _ t0 t1 t2 t3 t4 t5 L6 w (by simp) hL hca hs (hg t1 (by simp)) (hg t2 (by simp)) (hg t3 (by simp)) (fitsK a1) (fitsK a2) (fitsK a3) hA (by rw [h0, hsh]; rfl)
    · obtain ⟨s, hw, hsh, hB, hW⟩ := shape8 hk
      rw [hsh] at h
      obtain ⟨t0, L1, rfl, a0, h⟩ := agreeF_cons h
      obtain ⟨t1, L2, rfl, a1, h⟩ := agreeF_cons h
      obtain ⟨t2, L3, rfl, a2, h⟩ := agreeF_cons h
      obtain ⟨t3, L4, rfl, a3, h⟩ := agreeF_cons h
      obtain ⟨t4, L5, rfl, a4, h⟩ := agreeF_cons h
      obtain ⟨t5, L6, rfl, a5, h⟩ := agreeF_cons h
      obtain ⟨t6, L7, rfl, a6, h⟩ := agreeF_cons h
      obtain ⟨t7, L8, rfl, a7, h⟩ := agreeF_cons h
      exact read8 k hk A ca _ t0 t1 t2 t3 t4 t5 t6 t7 L8 w (by simp) hL hca hs (hg t1 (by simp)) (hg t2 (by simp)) (hg t3 (by simp)) (hg t5 (by simp)) (hg t6 (by simp)) (hg t7 (by simp)) (fitsK a1) (fitsK a2) (fitsK a3) (fitsK a5) (fitsK a6) (fitsK a7) hA (by rw [h0, hsh]; rfl)
  · exact read_no k A ca L w hL hA h
theorem readQ_le (k : Int) (L : List Tk) : (readQ k L).2.1 ≤ L.length := by
  have h1 := agreeF_le L (shapeF k)
  by_cases h : agreeF L (shapeF k) = (shapeF k).length
  · unfold readQ
    simp only []
    rw [if_pos h]
    have h2 := (readW_ok (L.drop (agreeF L (shapeF k))) [] (by simp) List.Pairwise.nil).2.2.1
    rw [List.length_drop] at h2
    show agreeF L (shapeF k) + _ ≤ _
    split
    · omega
    · simp; omega
  · rw [read_no_eq h]; exact h1.1
theorem place (A : Option Addr) (ca : Nat) (L : List Tk) (n : Nat) (w : World) (hL : L.length ≤ 100000) (hn : n ≤ L.length) (hA : TkAt w A L) (hs : SmallTk L) : Calls Tryz.prog 41 #[.slice A L.length ca, .int .i64 n] w fun e w' => e = .returned (.int .i64 (placeOf L n)) ∧ RowKit.Below w.heap.size w w' := by
  by_cases hlt : n < L.length
  · obtain ⟨g, o, rfl, hg, hc⟩ := hA (by omega)
    obtain ⟨_, _, c⟩ := hc n hlt
    have hp : placeOf L n = L[n].col := by unfold placeOf; rw [if_pos hlt, colAt_eq hlt]
    have HP := Lib.hid hp
    have d1 : decide ((n : Int) < L.length) = true := by simp; omega
    have p1 : (0 : Int) ≤ n := by omega
    have p2 : (n : Int) < L.length := by omega
    clear hc hA hs hp
    generalize L[n] = t at *
    go_enter Tryz.func41, Tryz.ntmps41
    go_wp2_with fail
    go_ret
    exact ⟨ret_int (by rw [HP.out]), Below.refl _ _⟩
  · obtain rfl : n = L.length := by omega
    by_cases h0 : 0 < L.length
    · obtain ⟨g, o, rfl, hg, hc⟩ := hA h0
      have hb : placeOf L L.length = L[L.length - 1].col + L[L.length - 1].text.size := by unfold placeOf; rw [if_neg (by omega), behindOf_last h0]
      have HB := Lib.hid hb
      obtain ⟨s1, s2⟩ := hs L[L.length - 1] (List.getElem_mem _)
      obtain ⟨a, b, c⟩ := hc (L.length - 1) (by omega)
      obtain ⟨m, hm⟩ : ∃ m, L.length = m + 1 := ⟨L.length - 1, by omega⟩
      clear hc hA hs hb
      generalize L[L.length - 1] = t at *
      have e1 : (L.length : Int) - 1 = m := by omega
      rw [show L.length - 1 = m by omega] at a b c
      have w1 : ((L.length : Int) == 0) = false := by
        rw [beq_eq_false_iff_ne]; omega
      have w2 : decide ((m : Int) < L.length) = true := decide_eq_true (by omega)
      have w3 : m < L.length := by omega
      have w4 : decide ((L.length : Int) < L.length) = false := by simp
      have HM := Lib.hid hm
      clear hm hlt
      go_enter Tryz.func41, Tryz.ntmps41
      go_wp2_with fail
      go_ret
      exact ⟨ret_int (by rw [HB.out]; simp), (Below.refl _ _).alloc (Nat.le_refl _) _⟩
    · have : L = [] := List.eq_nil_of_length_eq_zero (by omega)
      subst this
      go_enter Tryz.func41, Tryz.ntmps41
      go_wp2_with fail
      go_ret
      exact ⟨rfl, Below.refl _ _⟩
/-- What a line is asked as. -/
def askA : TkAns → Qy × Int × Int
  | .bad c e => (zeroQ, c, e)
  | .ok L => parseQ L
def AskPost (p : Qy × Int × Int) (w : World) (e : Ending) (w' : World) : Prop := ∃ A c, e = .returned (.tuple #[p.1.val A c, .int .i64 p.2.1, .int .i64 p.2.2]) ∧ SRow w' A p.1.who ∧ (∀ g o, A = some ⟨g, o, none⟩ → w.heap.size ≤ g) ∧ RowKit.Below w.heap.size w w'
set_option maxHeartbeats 1000000 in
set_option maxRecDepth 100000 in
theorem parse_bad (s : ByteArray) (w : World) (hs : s.size ≤ 1000000) (c : Nat) (er : Int) (h : ansOf s = .bad c er) : Calls Tryz.prog 9 #[.string s] w (AskPost (askA (.bad c er)) w) := by
  have HT := Lib.hid (tokens s · hs)
  rw [h] at HT
  have he := ans_bad h
  have e1 : (er != 0) = true := by rcases he with rfl | rfl <;> rfl
  have HZ := Lib.hid (show (askA (.bad c er)).1.val none 0 = .agg #[.int .i64 0, .string ⟨#[]⟩, .string ⟨#[]⟩, .string ⟨#[]⟩, .string ⟨#[]⟩, .slice none 0 0] from rfl)
  clear h he
  go_enter Tryz.func9, Tryz.ntmps9
  go_wp2_with fail
  refine (HT.out _).mono ?_
  rintro e w1 ⟨v, rfl, hown, hb1⟩
  have bR := blk_below (heap_alloc_new w zero6) hb1 (by simp)
  unfold zero6 at bR
  have hcR := fun o => Lib.cell_of_heap bR o
  have hfR := blk_frozen bR
  have hb0 := ((Below.refl w.heap.size w).alloc (Nat.le_refl _) zero6).trans (hb1.mono (by simp))
  have gc := set_cell
  simp only [okErr, okCol]
  clear hown bR hb1
  go_wp2_with fail
  refine bodyPost_ret (v := .tuple #[.agg #[.int .i64 0, .string ⟨#[]⟩, .string ⟨#[]⟩, .string ⟨#[]⟩, .string ⟨#[]⟩, .slice none 0 0], .int .i64 c, .int .i64 er]) (by simp [results, Tryz.results9, go_sem, set6, hcR]) rfl ⟨none, 0, by rw [HZ.out]; rfl, (fun h => by simp [askA, zeroQ] at h), (fun g o e => by cases e), ?_⟩
  exact (((((hb0.setCell (by simp) _).setCell (by simp) _).setCell (by simp) _).setCell (by simp) _).setCell (by simp) _).setCell (by simp) _
set_option maxHeartbeats 4000000 in
set_option maxRecDepth 100000 in
theorem parse_ok (s : ByteArray) (w : World) (hs : s.size ≤ 1000000) (L : List Tk) (h : ansOf s = .ok L) : Calls Tryz.prog 9 #[.string s] w (AskPost (parseQ L) w) := by
  have hgood := ans_good h
  have hlen := ans_len h
  have Hg := Lib.hid (fun t ht => (hgood t ht).1)
  have Hs : Hid (SmallTk L) := Lib.hid (fun t ht => ⟨by have := (hgood t ht).2.1; omega, by have := (hgood t ht).2.2; omega⟩)
  have HT := Lib.hid (tokens s · hs)
  rw [h] at HT
  clear h hgood
  go_enter Tryz.func9, Tryz.ntmps9
  go_wp2_with fail
  refine (HT.out _).mono ?_
  rintro e w1 ⟨v, rfl, hown, hb1⟩
  obtain ⟨A, ca, rfl, hca, hA⟩ := of_rowTk hown
  simp only [okErr, okCol, okToks] at hca hA ⊢
  have bR := blk_below (heap_alloc_new w zero6) hb1 (by simp)
  unfold zero6 at bR
  have hb0 := ((Below.refl w.heap.size w).alloc (Nat.le_refl _) zero6).trans (hb1.mono (by simp))
  have z1 := hb1.size
  simp only [World.size_alloc] at z1
  have BR := Lib.hid bR
  have HA := Lib.hid hA
  have HB0 := Lib.hid hb0
  clear hown bR hb1 hA hb0
  go_wp2_with fail
  go_loopw [7, 8, 9] (fun y f kd wr => ∃ (k fn : Nat) (yv : Int), k ≤ 6 ∧ fn ≤ L.length ∧ kd = .int .i64 ((k + 1 : Nat) : Int) ∧ f = .int .i64 fn ∧ y = .int .i64 yv ∧ Hid (parseQ L = goQ L (6 - k) k fn yv) ∧ RowKit.Below w1.heap.size w1 wr) (fun _ _ kd _ => 7 - (intOf kd).toNat)
  case atStart => exact ⟨0, 0, 0, by omega, by omega, rfl, rfl, rfl, Lib.hid rfl, Below.refl _ _⟩
  case round =>
    obtain ⟨k, fn, yv, hk, hfn, rfl, rfl, rfl, hrun, hbel⟩ := hrel
    by_cases hlt : k < 6
    · have z2 := hbel.size
      have HRd := Lib.hid (read ((k + 1 : Nat) : Int) (by omega) (by omega) A ca L wr (by omega) hca Hs.out Hg.out (HA.out.below hbel))
      obtain ⟨m, hm⟩ : ∃ m, 6 - k = m + 1 := ⟨5 - k, by omega⟩
      have hm5 : m = 6 - (k + 1) := by omega
      have hrun' := hrun.out
      rw [hm] at hrun'
      have hrl := readQ_le ((k + 1 : Nat) : Int) L
      have G1 := Lib.hid (fun h => hrun'.trans (goQ_hit (y := yv) h))
      have G2 := Lib.hid (fun h h' => hrun'.trans (goQ_far (y := yv) h h'))
      have G3 := Lib.hid (fun h h' => hrun'.trans (goQ_near (y := yv) h h'))
      rw [hm5] at G2 G3
      generalize readQ ((k + 1 : Nat) : Int) L = r at *
      obtain ⟨q, n, er⟩ := r
      obtain ⟨qk, ⟨ao, an⟩, ⟨bo, bn⟩, T⟩ := q
      simp only at hrl
      clear hm hm5 hrun' hrun
      go_wp2_with fail
      refine HRd.out.mono ?_
      rintro e w2 ⟨Aq, cq, rfl, hrow, hfr, hb2⟩
      have hbw2 := hbel.trans (hb2.mono z2)
      have HRow := Lib.hid hrow
      have HFr : Hid (∀ g o, Aq = some ⟨g, o, none⟩ → w1.heap.size ≤ g) := Lib.hid (fun g o e => by have := hfr g o e; omega)
      have HBW := Lib.hid hbw2
      unfold Qy.val
      simp only at HRow ⊢
      clear hrow hfr hb2 hbel hbw2
      by_cases he : er = 0
      · subst he
        have hfin := Lib.hid (G1.out rfl)
        have z3 := HBW.out.size
        have z4 : w.heap.size < w2.heap.size := by omega
        have bR0 := blk_below BR.out HBW.out (by omega)
        have hcR := fun o => Lib.cell_of_heap bR0 o
        have hfR := blk_frozen bR0
        have hbf := Lib.hid (HB0.out.trans (HBW.out.mono (by omega : w.heap.size ≤ w1.heap.size)))
        have gal : ∀ (X : World) (o : Obj) (i : Nat), w.heap.size < X.heap.size → (X.alloc o).cell? ⟨w.heap.size, i, none⟩ = X.cell? ⟨w.heap.size, i, none⟩ := fun X o i h => World.cell?_alloc_past _ _ _ h
        clear bR0 G1 G2 G3
        go_wp2_with fail
        refine bodyPost_ret (v := .tuple #[.agg #[.int .i64 qk, .string ao, .string an, .string bo, .string bn, .slice Aq T.length cq], .int .i64 0, .int .i64 0]) (by simp [results, Tryz.results9, go_sem, set6, hcR, z4, set_size, gal]) rfl ⟨Aq, cq, by rw [hfin.out]; rfl, ?_, (fun g o e => by have := HFr.out g o e; omega), ?_⟩
        · rw [hfin.out]
          exact (srow_set6 HRow.out (fun g o e => by have := HFr.out g o e; omega) _ _ _ _ _ _).keep ((Below.refl _ _).alloc (Nat.le_refl _) _)
        · exact (below_set6 hbf.out (Nat.le_refl _) _ _ _ _ _ _).alloc (by rw [set_size, set_size, set_size, set_size, set_size, set_size]; omega) _
      · have d0 : (er == 0) = false := by simpa using he
        by_cases hf : fn ≤ n
        · have d1 : decide ((fn : Int) ≤ n) = true := by simp; omega
          have hnext := Lib.hid (G2.out he hf)
          clear G1 G2 G3 he
          go_wp2_with fail
          go_roundw
          case rel => exact ⟨k + 1, n, er, by omega, by omega, by go_num, rfl, rfl, hnext, HBW.out.alloc (by have := HBW.out.size; omega) _⟩
          case measure => simp [intOf]; omega
        · have d1 : decide ((fn : Int) ≤ n) = false := by simp; omega
          have hnext := Lib.hid (G3.out he hf)
          clear G1 G2 G3 he
          go_wp2_with fail
          go_roundw
          case rel => exact ⟨k + 1, fn, yv, by omega, by omega, by go_num, rfl, rfl, hnext, HBW.out.alloc (by have := HBW.out.size; omega) _⟩
          case measure => simp [intOf]; omega
    · obtain rfl : k = 6 := by omega
      have HP := Lib.hid (place A ca L fn wr (by omega) hfn (HA.out.below hbel) Hs.out)
      have hfin : Hid (parseQ L = (zeroQ, (placeOf L fn : Int), yv)) := Lib.hid hrun.out
      go_wp2_with fail
      refine HP.out.mono ?_
      rintro e w3 ⟨rfl, hb3⟩
      have hbw3 := hbel.trans (hb3.mono hbel.size)
      have bR := blk_below BR.out hbw3 (by omega)
      have hcR := fun o => Lib.cell_of_heap bR o
      have hfR := blk_frozen bR
      have hbf := Lib.hid (HB0.out.trans (hbw3.mono (by omega : w.heap.size ≤ w1.heap.size)))
      have gc := set_cell
      clear bR hbw3 hb3 hbel hrun
      go_wp2_with fail
      refine bodyPost_ret (v := .tuple #[.agg #[.int .i64 0, .string ⟨#[]⟩, .string ⟨#[]⟩, .string ⟨#[]⟩, .string ⟨#[]⟩, .slice none 0 0], .int .i64 (placeOf L fn), .int .i64 yv]) (by simp [results, Tryz.results9, go_sem, set6, hcR]) rfl ⟨none, 0, by rw [hfin.out]; rfl, (fun h => by rw [hfin.out] at h; simp [zeroQ] at h), (fun g o e => by cases e), ?_⟩
      exact (((((hbf.out.setCell (by simp) _).setCell (by simp) _).setCell (by simp) _).setCell (by simp) _).setCell (by simp) _).setCell (by simp) _
theorem parse (s : ByteArray) (w : World) (hs : s.size ≤ 1000000) : Calls Tryz.prog 9 #[.string s] w (AskPost (askA (ansOf s)) w) := by
  cases h : ansOf s with
  | bad c e => exact parse_bad s w hs c e h
  | ok L => exact parse_ok s w hs L h
end Go.Proofs.YtkmonmpfbchffaaGreat.QryE
/- Plain mathematics: the tokens of a statement's line; a statement that is right is parsed from its line; what is parsed is right. -/
namespace Go.Proofs.YtkmonmpfbchffaaGreat.SynZ
set_option linter.unusedVariables false
set_option linter.unusedSimpArgs false
open Go.RowKit Go.Proofs.YtkmonmpfbchffaaGreat.Plain Go.Proofs.YtkmonmpfbchffaaGreat.SynP Go.Proofs.YtkmonmpfbchffaaGreat.SynQ Go.Proofs.YtkmonmpfbchffaaGreat.Scan2 Go.Proofs.YtkmonmpfbchffaaGreat.Scan3 Go.Proofs.YtkmonmpfbchffaaGreat.SynR Go.Proofs.YtkmonmpfbchffaaGreat.SynW Go.Proofs.YtkmonmpfbchffaaGreat.SynV Go.Proofs.YtkmonmpfbchffaaGreat.SynX Go.Proofs.YtkmonmpfbchffaaGreat.SynL Go.Proofs.YtkmonmpfbchffaaGreat.Syn2 Go.Proofs.YtkmonmpfbchffaaGreat.Syn3 Go.Proofs.YtkmonmpfbchffaaGreat.Syn4
def arr : ByteArray := ⟨#[32, 60, 45, 32]⟩
def ampS : ByteArray := ⟨#[32, 38, 32]⟩
theorem app_list (a b : ByteArray) : (a ++ b).data.toList = a.data.toList ++ b.data.toList := by
  rw [ByteArray.data_append, Array.toList_append]
theorem text_eqR (r : Rl) : text r = textR r := rfl
/-- What stands ahead of a statement's body. -/
theorem run_head {h : Rl} {body : ByteArray} (hh : h.ok = true) : ∃ k L, (textR h ++ arr ++ body).data.toList.drop k = body.data.toList ∧ L = roleTk h 0 ++ [⟨4, arrow, (textR h).size + 1 + 1⟩] ∧ tkRun (textR h ++ arr ++ body) 0 [] = tkRun (textR h ++ arr ++ body) k L ∧ k = (textR h).size + 4 := by
  have e : (textR h ++ arr ++ body).data.toList = (textR h).data.toList ++ (32 :: 60 :: 45 :: 32 :: body.data.toList) := by
    rw [app_list, app_list, List.append_assoc]; rfl
  obtain ⟨a1, b1⟩ := run_role (s := textR h ++ arr ++ body) (k := 0) (L := []) (rest := 32 :: 60 :: 45 :: 32 :: body.data.toList) (by rw [List.drop_zero]; exact e) hh (stops_sp _)
  obtain ⟨a2, b2⟩ := run_sp (L := [] ++ roleTk h 0) b1
  obtain ⟨a3, b3⟩ := run_arrow (L := [] ++ roleTk h 0) b2
  obtain ⟨a4, b4⟩ := run_sp (L := [] ++ roleTk h 0 ++ [⟨4, arrow, 0 + (textR h).size + 1 + 1⟩]) b3
  refine ⟨_, _, b4, ?_, by rw [a1, a2, a3, a4], by omega⟩
  simp
theorem body_ne35 {h : Rl} {body : ByteArray} (hh : h.ok = true) (hb : ∀ c ∈ body.data.toList, c ≠ 35) : ∀ c ∈ (textR h ++ arr ++ body).data.toList, c ≠ 35 := by
  intro c hc
  rw [app_list, app_list] at hc
  rcases List.mem_append.1 hc with hc | hc
  · rcases List.mem_append.1 hc with hc | hc
    · exact role_ne35 hh c hc
    · rcases (by simpa [arr] using hc : c = 32 ∨ c = 60 ∨ c = 45 ∨ c = 32) with rfl | rfl | rfl | rfl <;> decide
  · exact hb c hc
/-- The tokens of a line, out of those of its body. -/
theorem line_toks {h : Rl} {body : ByteArray} (hh : h.ok = true) (hb : ∀ c ∈ body.data.toList, c ≠ 35) (hs : body.size ≤ 100) {k : Nat} (hk : k = (textR h).size + 4) {M : List Tk}
    (hM : ∀ (s : ByteArray) (L : List Tk), s.data.toList.drop k = body.data.toList → tkRun s k L = .ok (L ++ M)) : ansOf (textR h ++ arr ++ body) = .ok (roleTk h 0 ++ [⟨4, arrow, (textR h).size + 1 + 1⟩] ++ M) := by
  obtain ⟨k', L, h1, h2, h3, h4⟩ := run_head (body := body) hh
  have hz := role_size hh
  have e : (textR h ++ arr ++ body).size = (textR h).size + 4 + body.size := by rw [ByteArray.size_append, ByteArray.size_append]; rfl
  unfold ansOf
  rw [if_neg (by omega), bare_no35 (body_ne35 hh hb), h3, h4, ← hk, ← h2]
  exact hM _ L (by rw [hk, ← h4]; exact h1)
theorem toks1 {h : Rl} {w : ByteArray} (hh : h.ok = true) (hw : named capB w.data.toList = true) : ansOf (textR h ++ arr ++ w) = .ok (roleTk h 0 ++ [⟨4, arrow, (textR h).size + 1 + 1⟩] ++ [⟨1, w, (textR h).size + 4 + 1⟩]) := by
  obtain ⟨_, _, _, _, _, _, h8, _⟩ := named_cons hw
  refine line_toks hh (named_ne35 hw) (by omega) rfl ?_
  intro s L hd
  obtain ⟨a, b⟩ := run_cap (L := L) (w := w) (rest := []) (by simpa using hd) hw stops_nil
  rw [a]; exact run_done b
theorem toks2 {h a : Rl} (hh : h.ok = true) (ha : a.ok = true) : ansOf (textR h ++ arr ++ textR a) = .ok (roleTk h 0 ++ [⟨4, arrow, (textR h).size + 1 + 1⟩] ++ roleTk a ((textR h).size + 4)) := by
  have := role_size ha
  refine line_toks hh (role_ne35 ha) (by omega) rfl ?_
  intro s L hd
  obtain ⟨x, y⟩ := run_role (L := L) (r := a) (rest := []) (by simpa using hd) ha stops_nil
  rw [x]; exact run_done y
theorem toks3 {h a : Rl} {v : ByteArray} (hh : h.ok = true) (ha : a.ok = true) (hv : named smallB v.data.toList = true) : ∃ c1 c2, ansOf (textR h ++ arr ++ (textR a ++ ⟨#[46]⟩ ++ v)) = .ok (roleTk h 0 ++ [⟨4, arrow, (textR h).size + 1 + 1⟩] ++ (roleTk a ((textR h).size + 4) ++ [⟨3, dot, c1⟩] ++ [⟨2, v, c2⟩])) := by
  have := role_size ha
  obtain ⟨_, _, _, _, _, _, h8, _⟩ := named_cons hv
  refine ⟨(textR h).size + 4 + (textR a).size + 1, (textR h).size + 4 + (textR a).size + 1 + 1, line_toks hh ?_ (by rw [ByteArray.size_append, ByteArray.size_append]; show _ + 1 + _ ≤ _; omega) rfl ?_⟩
  · intro c hc
    rw [app_list, app_list] at hc
    rcases List.mem_append.1 hc with hc | hc
    · rcases List.mem_append.1 hc with hc | hc
      · exact role_ne35 ha c hc
      · rcases (by simpa using hc : c = 46) with rfl; decide
    · exact named_ne35 hv c hc
  · intro s L hd
    have hd' : s.data.toList.drop ((textR h).size + 4) = (textR a).data.toList ++ (46 :: (v.data.toList ++ [])) := by
      rw [hd, app_list, app_list]; simp
    obtain ⟨x1, y1⟩ := run_role (L := L) (r := a) hd' ha (stops_dot _)
    obtain ⟨x2, y2⟩ := run_dot (L := L ++ roleTk a ((textR h).size + 4)) y1
    obtain ⟨x3, y3⟩ := run_small (L := L ++ roleTk a ((textR h).size + 4) ++ [⟨3, dot, (textR h).size + 4 + (textR a).size + 1⟩]) y2 hv stops_nil
    rw [x1, x2, x3, run_done y3]; simp
theorem toks4 {h a b : Rl} (hh : h.ok = true) (ha : a.ok = true) (hb : b.ok = true) : ∃ c1 c2, ansOf (textR h ++ arr ++ (textR a ++ ampS ++ textR b)) = .ok (roleTk h 0 ++ [⟨4, arrow, (textR h).size + 1 + 1⟩] ++ (roleTk a ((textR h).size + 4) ++ [⟨5, amp, c1⟩] ++ roleTk b c2)) := by
  have := role_size ha
  have := role_size hb
  refine ⟨(textR h).size + 4 + (textR a).size + 1 + 1, (textR h).size + 4 + (textR a).size + 1 + 1 + 1, line_toks hh ?_ (by rw [ByteArray.size_append, ByteArray.size_append]; show _ + 3 + _ ≤ _; omega) rfl ?_⟩
  · intro c hc
    rw [app_list, app_list] at hc
    rcases List.mem_append.1 hc with hc | hc
    · rcases List.mem_append.1 hc with hc | hc
      · exact role_ne35 ha c hc
      · rcases (by simpa [ampS] using hc : c = 32 ∨ c = 38 ∨ c = 32) with rfl | rfl | rfl <;> decide
    · exact role_ne35 hb c hc
  · intro s L hd
    have hd' : s.data.toList.drop ((textR h).size + 4) = (textR a).data.toList ++ (32 :: 38 :: 32 :: ((textR b).data.toList ++ [])) := by
      rw [hd, app_list, app_list]; simp [ampS]
    obtain ⟨x1, y1⟩ := run_role (L := L) (r := a) hd' ha (stops_sp _)
    obtain ⟨x2, y2⟩ := run_sp (L := L ++ roleTk a ((textR h).size + 4)) y1
    obtain ⟨x3, y3⟩ := run_amp (L := L ++ roleTk a ((textR h).size + 4)) y2
    obtain ⟨x4, y4⟩ := run_sp (L := L ++ roleTk a ((textR h).size + 4) ++ [⟨5, amp, (textR h).size + 4 + (textR a).size + 1 + 1⟩]) y3
    obtain ⟨x5, y5⟩ := run_role (L := L ++ roleTk a ((textR h).size + 4) ++ [⟨5, amp, (textR h).size + 4 + (textR a).size + 1 + 1⟩]) (r := b) y4 hb stops_nil
    rw [x1, x2, x3, x4, x5, run_done y5]; simp
theorem cmpR_anti (a b : Rl) : cmpR b a = - cmpR a b := by
  unfold cmpR
  rw [cmpB_anti a.owner b.owner, cmpB_anti a.name b.name]
  by_cases h : cmpB a.owner b.owner = 0
  · rw [h, Int.neg_zero, orL_cons0, orL_cons0, orL_one, orL_one]
  · rw [orL_cons1 _ h, orL_cons1 _ (by omega)]
theorem normal_other {s : St} (h : s.kind ≠ 4) : s.normal = s := if_neg (fun e => h e.1)
theorem parsed {t : ByteArray} {L : List Tk} {k : Nat} (h : ansOf t = .ok L) (h1 : 1 ≤ k) (h4 : k ≤ 4) (hk : kindsOf L = shapeK k) : ansOf t = .ok L ∧ parseL L = ((stmtOf k L).normal, 0, 0) := ⟨h, parseL_hit h1 h4 hk⟩
/-- A right statement's parts. -/
theorem right_all {s : St} (h : s.right = true) : s.head.ok = true ∧ ((s.kind = 1 ∧ named capB s.who.data.toList = true ∧ s.a = zeroR ∧ s.b = zeroR ∧ s.via = noText) ∨ (s.kind = 2 ∧ s.who = noText ∧ s.a.ok = true ∧ s.b = zeroR ∧ s.via = noText) ∨
    (s.kind = 3 ∧ s.who = noText ∧ s.a.ok = true ∧ s.b = zeroR ∧ named smallB s.via.data.toList = true) ∨ (s.kind = 4 ∧ s.who = noText ∧ s.a.ok = true ∧ s.b.ok = true ∧ ¬ cmpR s.b s.a < 0 ∧ s.via = noText)) := by
  obtain ⟨k, hd, wh, a, b, v⟩ := s
  unfold St.right at h
  simp only [Bool.and_eq_true, decide_eq_true_eq] at h
  obtain ⟨⟨h1, h2⟩, h3⟩ := h
  refine ⟨h1, ?_⟩
  rcases kinds k with rfl | rfl | rfl | rfl | ⟨n1, n2, n3, n4⟩
  rotate_left 4
  · unfold St.says at h2
    rw [if_neg n1, if_neg n2, if_neg n3, if_neg n4] at h2; cases h2
  · have h3' : (⟨1, hd, wh, a, b, v⟩ : St) = ⟨1, hd, wh, zeroR, zeroR, noText⟩ := h3
    injection h3' with _ _ _ ea eb ev
    exact .inl ⟨rfl, h2, ea, eb, ev⟩
  · have h3' : (⟨2, hd, wh, a, b, v⟩ : St) = ⟨2, hd, noText, a, zeroR, noText⟩ := h3
    injection h3' with _ _ ew _ eb ev
    exact .inr (.inl ⟨rfl, ew, h2, eb, ev⟩)
  · have h3' : (⟨3, hd, wh, a, b, v⟩ : St) = ⟨3, hd, noText, a, zeroR, v⟩ := h3
    injection h3' with _ _ ew _ eb _
    have h2' : (a.ok && named smallB v.data.toList) = true := h2
    rw [Bool.and_eq_true] at h2'
    exact .inr (.inr (.inl ⟨rfl, ew, h2'.1, eb, h2'.2⟩))
  · have h3' : (⟨4, hd, wh, a, b, v⟩ : St) = ⟨4, hd, noText, a, b, noText⟩ := h3
    injection h3' with _ _ ew _ _ ev
    have h2' : (a.ok && b.ok && !decide (cmpR b a < 0)) = true := h2
    simp only [Bool.and_eq_true, Bool.not_eq_true', decide_eq_false_iff_not] at h2'
    exact .inr (.inr (.inr ⟨rfl, ew, h2'.1.1, h2'.1.2, h2'.2, ev⟩))
theorem line_right {s : St} (h : s.right = true) : line s = textR s.head ++ arr ++ body s := if_pos h
/-- A right statement is parsed from its line. -/
theorem parse_line {s : St} (h : s.right = true) : ∃ L, ansOf (line s) = .ok L ∧ parseL L = (s, 0, 0) := by
  obtain ⟨hh, hc⟩ := right_all h
  rw [line_right h]
  obtain ⟨k, hd, wh, a, b, v⟩ := s
  simp only at hh hc
  rcases hc with ⟨rfl, hw, rfl, rfl, rfl⟩ | ⟨rfl, rfl, ha, rfl, rfl⟩ | ⟨rfl, rfl, ha, rfl, hv⟩ | ⟨rfl, rfl, ha, hb, hle, rfl⟩
  · obtain ⟨e1, e2⟩ := parsed (k := 1) (toks1 hh hw) (by omega) (by omega) rfl
    refine ⟨_, e1, ?_⟩
    rw [e2]
    rw [normal_other (show ((1 : Nat) : Int) ≠ 4 by decide)]; rfl
  · obtain ⟨e1, e2⟩ := parsed (k := 2) (toks2 hh ha) (by omega) (by omega) rfl
    refine ⟨_, e1, ?_⟩
    rw [e2]
    rw [normal_other (show ((2 : Nat) : Int) ≠ 4 by decide)]; rfl
  · obtain ⟨c1, c2, ht⟩ := toks3 hh ha hv
    obtain ⟨e1, e2⟩ := parsed (k := 3) ht (by omega) (by omega) rfl
    refine ⟨_, e1, ?_⟩
    rw [e2]
    rw [normal_other (show ((3 : Nat) : Int) ≠ 4 by decide)]; rfl
  · obtain ⟨c1, c2, ht⟩ := toks4 hh ha hb
    obtain ⟨e1, e2⟩ := parsed (k := 4) ht (by omega) (by omega) rfl
    refine ⟨_, e1, ?_⟩
    rw [e2]
    unfold St.normal; rw [if_neg (fun e => hle e.2)]; rfl
theorem role_ok {a c : Tk} (ha : goodTk a) (hc : goodTk c) (ka : a.kind = 1) (kc : c.kind = 2) : Rl.ok ⟨a.text, c.text⟩ = true := by
  unfold Rl.ok; rw [Bool.and_eq_true]; exact ⟨good1 ha ka, good2 hc kc⟩
theorem right_of {s : St} (h1 : s.head.ok = true) (h2 : s.says = true) (h3 : s = s.own) : s.right = true := by
  unfold St.right; rw [h1, h2, decide_eq_true h3]; rfl
/-- What good tokens are parsed as may be. -/
theorem stmt_right {L : List Tk} {k : Nat} (h1 : 1 ≤ k) (h4 : k ≤ 4) (hg : ∀ t ∈ L, goodTk t) (hk : kindsOf L = shapeK k) : (stmtOf k L).normal.right = true := by
  have hl := len_of_kinds hk
  match k, h1, h4, hk, hl with
  | 1, _, _, hk, hl =>
    match L, hl, hk, hg with
    | [t0, t1, t2, t3, t4], _, hk, hg =>
      have e : (stmtOf 1 [t0, t1, t2, t3, t4]).normal = ⟨1, ⟨t0.text, t2.text⟩, t4.text, zeroR, zeroR, noText⟩ := normal_other (show ((1 : Nat) : Int) ≠ 4 by decide)
      rw [e]
      exact right_of (role_ok (hg t0 (by simp)) (hg t2 (by simp)) (kind_at hk 0 (by simp)) (kind_at hk 2 (by simp))) (good1 (hg t4 (by simp)) (kind_at hk 4 (by simp))) rfl
  | 2, _, _, hk, hl =>
    match L, hl, hk, hg with
    | [t0, t1, t2, t3, t4, t5, t6], _, hk, hg =>
      have e : (stmtOf 2 [t0, t1, t2, t3, t4, t5, t6]).normal = ⟨2, ⟨t0.text, t2.text⟩, noText, ⟨t4.text, t6.text⟩, zeroR, noText⟩ := normal_other (show ((2 : Nat) : Int) ≠ 4 by decide)
      rw [e]
      exact right_of (role_ok (hg t0 (by simp)) (hg t2 (by simp)) (kind_at hk 0 (by simp)) (kind_at hk 2 (by simp))) (role_ok (hg t4 (by simp)) (hg t6 (by simp)) (kind_at hk 4 (by simp)) (kind_at hk 6 (by simp))) rfl
  | 3, _, _, hk, hl =>
    match L, hl, hk, hg with
    | [t0, t1, t2, t3, t4, t5, t6, t7, t8], _, hk, hg =>
      have e : (stmtOf 3 [t0, t1, t2, t3, t4, t5, t6, t7, t8]).normal = ⟨3, ⟨t0.text, t2.text⟩, noText, ⟨t4.text, t6.text⟩, zeroR, t8.text⟩ := normal_other (show ((3 : Nat) : Int) ≠ 4 by decide)
      rw [e]
      refine right_of (role_ok (hg t0 (by simp)) (hg t2 (by simp)) (kind_at hk 0 (by simp)) (kind_at hk 2 (by simp))) ?_ rfl
      show (Rl.ok ⟨t4.text, t6.text⟩ && named smallB t8.text.data.toList) = true
      rw [role_ok (hg t4 (by simp)) (hg t6 (by simp)) (kind_at hk 4 (by simp)) (kind_at hk 6 (by simp)), good2 (hg t8 (by simp)) (kind_at hk 8 (by simp))]; rfl
  | 4, _, _, hk, hl =>
    match L, hl, hk, hg with
    | [t0, t1, t2, t3, t4, t5, t6, t7, t8, t9, t10], _, hk, hg =>
      have r1 := role_ok (hg t4 (by simp)) (hg t6 (by simp)) (kind_at hk 4 (by simp)) (kind_at hk 6 (by simp))
      have r2 := role_ok (hg t8 (by simp)) (hg t10 (by simp)) (kind_at hk 8 (by simp)) (kind_at hk 10 (by simp))
      have r0 := role_ok (hg t0 (by simp)) (hg t2 (by simp)) (kind_at hk 0 (by simp)) (kind_at hk 2 (by simp))
      by_cases hc : cmpR ⟨t8.text, t10.text⟩ ⟨t4.text, t6.text⟩ < 0
      · have e : (stmtOf 4 [t0, t1, t2, t3, t4, t5, t6, t7, t8, t9, t10]).normal = ⟨4, ⟨t0.text, t2.text⟩, noText, ⟨t8.text, t10.text⟩, ⟨t4.text, t6.text⟩, noText⟩ := if_pos ⟨rfl, hc⟩
        rw [e]
        refine right_of r0 ?_ rfl
        show (Rl.ok ⟨t8.text, t10.text⟩ && Rl.ok ⟨t4.text, t6.text⟩ && !decide (cmpR ⟨t4.text, t6.text⟩ ⟨t8.text, t10.text⟩ < 0)) = true
        rw [r1, r2, decide_eq_false (by rw [cmpR_anti ⟨t8.text, t10.text⟩ ⟨t4.text, t6.text⟩]; omega)]; rfl
      · have e : (stmtOf 4 [t0, t1, t2, t3, t4, t5, t6, t7, t8, t9, t10]).normal = ⟨4, ⟨t0.text, t2.text⟩, noText, ⟨t4.text, t6.text⟩, ⟨t8.text, t10.text⟩, noText⟩ := if_neg (fun e => hc e.2)
        rw [e]
        refine right_of r0 ?_ rfl
        show (Rl.ok ⟨t4.text, t6.text⟩ && Rl.ok ⟨t8.text, t10.text⟩ && !decide (cmpR ⟨t8.text, t10.text⟩ ⟨t4.text, t6.text⟩ < 0)) = true
        rw [r1, r2, decide_eq_false hc]; rfl
end Go.Proofs.YtkmonmpfbchffaaGreat.SynZ
