/- The kinds of the tokens of a line, in the program and in the document's answers. -/
import Derived.Test.YtofhiolmaojihaaSynG
namespace Go.Proofs.Ytofhiolmaojihaa.SynH
open Go.RowKit Go.Sort Go.Proofs.Ytofhiolmaojihaa.Plain Go.Proofs.Ytofhiolmaojihaa.SynP Go.Proofs.Ytofhiolmaojihaa.SynQ Go.Proofs.Ytofhiolmaojihaa.Grown Go.Proofs.Ytofhiolmaojihaa.SynA Go.Proofs.Ytofhiolmaojihaa.SynC Go.Proofs.Ytofhiolmaojihaa.SynG
set_option linter.unusedVariables false
set_option linter.unusedSimpArgs false
theorem iat_of_own {w : World} {B : Nat} {e : TypeId} {v : Value} {l : List Int} (h : w.ownsRow B e 1 v l.length (icells l)) : ∃ A cap, v = .slice A l.length cap ∧ IAt w A l := by
  rcases h.2 with ⟨rfl, h0⟩ | ⟨g, cap, cur, rfl, hB, hh, hc, hm, hs, ht⟩
  · exact ⟨none, 0, by rw [h0], fun hp => by omega⟩
  · refine ⟨_, _, rfl, fun hp => ⟨g, 0, rfl, (h.lt g rfl).2, fun j hj => ?_⟩⟩
    have a : (icells l)[j]? = some (.int .i64 l[j]) := by unfold icells; rw [List.getElem?_map, List.getElem?_eq_getElem hj]; rfl
    rw [← ht] at a
    rw [List.getElem?_take_of_lt (by omega)] at a
    rw [Lib.cell_of_heap hh, ← Array.getElem?_toList, Nat.zero_add]
    exact a
theorem iat_new (w : World) (l : List Int) (t : TypeId) : IAt (w.alloc (.cells (icells l).toArray t)) (some ⟨w.heap.size, 0, none⟩) l := fun _ =>
  ⟨w.heap.size, 0, rfl, by simp, fun k hk => by
    rw [Lib.cell_of_heap (heap_alloc_new w _), Nat.zero_add]
    unfold icells
    simp [hk]⟩
theorem iat_alloc {w : World} {A : Option Addr} {l : List Int} (h : IAt w A l) (o : Obj) : IAt (w.alloc o) A l := h.below ((Below.refl _ _).alloc (Nat.le_refl _) o)
theorem new_cell (w : World) (c : Array Value) (t : TypeId) (j : Nat) : (w.alloc (.cells c t)).cell? ⟨w.heap.size, j, none⟩ = c[j]? := Lib.cell_of_heap (heap_alloc_new w _) j
theorem own_base {w : World} {B B' : Nat} {e : TypeId} {size n : Nat} {v : Value} {xs : List Value} (h : w.ownsRow B e size v n xs) (hB : B' ≤ B) : w.ownsRow B' e size v n xs := by
  refine ⟨h.1, ?_⟩
  rcases h.2 with h0 | ⟨g, cap, cur, hv, hg, r⟩
  · exact .inl h0
  · exact .inr ⟨g, cap, cur, hv, Nat.le_trans hB hg, r⟩
set_option maxHeartbeats 1000000 in
set_option maxRecDepth 100000 in
theorem shapeOf1 (w : World) : Calls Try.prog 47 #[.int .i64 1] w (IPost (shapeK 1) w) := by
  obtain ⟨i0, hi, hz0, hz1, hz2⟩ := info_parts infoInt
  go_enter Try.func47, Try.ntmps47
  go_wp2_with fail
  have k1 : IAt (((w.alloc (.cells #[.int .i64 1, .int .i64 3, .int .i64 2] 3)).alloc (.cells #[.int .i64 4] 3)).alloc (.cells #[.slice (some ⟨w.heap.size, 0, none⟩) 3 3, .slice (some ⟨w.heap.size + 1, 0, none⟩) 1 1] 62)) (some ⟨w.heap.size, 0, none⟩) [1, 3, 2] := iat_alloc (iat_alloc (iat_new w [1, 3, 2] _) _) _
  have k2 : IAt (((w.alloc (.cells #[.int .i64 1, .int .i64 3, .int .i64 2] 3)).alloc (.cells #[.int .i64 4] 3)).alloc (.cells #[.slice (some ⟨w.heap.size, 0, none⟩) 3 3, .slice (some ⟨w.heap.size + 1, 0, none⟩) 1 1] 62)) (some ⟨w.heap.size + 1, 0, none⟩) [4] := by
    have := iat_new (w.alloc (.cells #[.int .i64 1, .int .i64 3, .int .i64 2] 3)) [4] 3
    rw [World.size_alloc] at this
    exact iat_alloc this _
  have k3 : ∀ j, (((w.alloc (.cells #[.int .i64 1, .int .i64 3, .int .i64 2] 3)).alloc (.cells #[.int .i64 4] 3)).alloc (.cells #[.slice (some ⟨w.heap.size, 0, none⟩) 3 3, .slice (some ⟨w.heap.size + 1, 0, none⟩) 1 1] 62)).cell? ⟨w.heap.size + 1 + 1, j, none⟩ = (#[.slice (some ⟨w.heap.size, 0, none⟩) 3 3, .slice (some ⟨w.heap.size + 1, 0, none⟩) 1 1] : Array Value)[j]? := fun j => by
    have := new_cell ((w.alloc (.cells #[.int .i64 1, .int .i64 3, .int .i64 2] 3)).alloc (.cells #[.int .i64 4] 3)) #[.slice (some ⟨w.heap.size, 0, none⟩) 3 3, .slice (some ⟨w.heap.size + 1, 0, none⟩) 1 1] 62 j
    rw [World.size_alloc, World.size_alloc] at this
    exact this
  refine (concatI (w.heap.size + 1 + 1) 2 [⟨some ⟨w.heap.size, 0, none⟩, 3, [1, 3, 2]⟩, ⟨some ⟨w.heap.size + 1, 0, none⟩, 1, [4]⟩] _ (by simp) (by simp) (by simp) (fun j hj => by rw [k3]; match j, hj with | 0, _ => rfl | 1, _ => rfl) (by simp only [List.mem_cons, List.not_mem_nil, or_false]; rintro r (rfl | rfl); exact k1; exact k2)).mono ?_
  rintro e w1 ⟨v1, rfl, hown, hb⟩
  have hb0 : Below w.heap.size w w1 := ((((Below.refl _ _).alloc (Nat.le_refl _) _).alloc (by simp) _).alloc (by simp; omega) _).trans (hb.mono (by simp; omega))
  have k5 : IAt w1 (some ⟨w.heap.size, 0, none⟩) [1, 3, 2] := k1.below hb
  have hsz := hb.size
  simp only [World.size_alloc] at hsz
  rw [World.size_alloc, World.size_alloc, World.size_alloc] at hown
  have hown' : w1.ownsRow (w.heap.size + 1 + 1 + 1) 3 1 v1 ([1, 3, 2, 4] : List Int).length (icells [1, 3, 2, 4]) := hown
  clear k1 k2 k3 hown hb
  clear k5
  go_wp2_with (at_builtin; refine wpList_append_own _ rfl _ _ 62 rfl (w.heap.size + 1 + 1 + 1) 3 i0 (.int .i64 0) 1 8 Try.underlying62 hi hz0 hz1 hz2 rfl (by decide) _ _ _ rfl (hown'.alloc _) ⟨w1.heap.size, 0, none⟩ 1 1 [.int .i64 1] rfl rfl ?c1 ?c2 ?c3 ?c4 ?c5 ?_)
  case c1 => intro j u hu; rw [add_off, Nat.zero_add, new_cell, ← hu]; simp
  case c2 => intro u hu; simp at hu; rw [hu]; rfl
  case c3 => unfold maxLen; decide
  case c4 => decide
  case c5 => simp; omega
  intro v2 w2 hown2 hgrow _
  have hb2 : Below w.heap.size w w2 := (hb0.alloc hb0.size _).grown hgrow (by simp; omega) (fun k hk => by have := (hown'.lt k hk).1; omega)
  clear hown' hgrow hb0
  go_wp2_with fail
  go_ret
  exact ⟨_, rfl, own_base hown2 (by omega), hb2⟩
set_option maxHeartbeats 1000000 in
set_option maxRecDepth 100000 in
theorem shapeOf2 (w : World) : Calls Try.prog 47 #[.int .i64 2] w (IPost (shapeK 2) w) := by
  go_enter Try.func47, Try.ntmps47
  go_wp2_with fail
  have k1 : IAt (((w.alloc (.cells #[.int .i64 1, .int .i64 3, .int .i64 2] 3)).alloc (.cells #[.int .i64 4] 3)).alloc (.cells #[.slice (some ⟨w.heap.size, 0, none⟩) 3 3, .slice (some ⟨w.heap.size + 1, 0, none⟩) 1 1] 62)) (some ⟨w.heap.size, 0, none⟩) [1, 3, 2] := iat_alloc (iat_alloc (iat_new w [1, 3, 2] _) _) _
  have k2 : IAt (((w.alloc (.cells #[.int .i64 1, .int .i64 3, .int .i64 2] 3)).alloc (.cells #[.int .i64 4] 3)).alloc (.cells #[.slice (some ⟨w.heap.size, 0, none⟩) 3 3, .slice (some ⟨w.heap.size + 1, 0, none⟩) 1 1] 62)) (some ⟨w.heap.size + 1, 0, none⟩) [4] := by
    have := iat_new (w.alloc (.cells #[.int .i64 1, .int .i64 3, .int .i64 2] 3)) [4] 3
    rw [World.size_alloc] at this
    exact iat_alloc this _
  have k3 : ∀ j, (((w.alloc (.cells #[.int .i64 1, .int .i64 3, .int .i64 2] 3)).alloc (.cells #[.int .i64 4] 3)).alloc (.cells #[.slice (some ⟨w.heap.size, 0, none⟩) 3 3, .slice (some ⟨w.heap.size + 1, 0, none⟩) 1 1] 62)).cell? ⟨w.heap.size + 1 + 1, j, none⟩ = (#[.slice (some ⟨w.heap.size, 0, none⟩) 3 3, .slice (some ⟨w.heap.size + 1, 0, none⟩) 1 1] : Array Value)[j]? := fun j => by
    have := new_cell ((w.alloc (.cells #[.int .i64 1, .int .i64 3, .int .i64 2] 3)).alloc (.cells #[.int .i64 4] 3)) #[.slice (some ⟨w.heap.size, 0, none⟩) 3 3, .slice (some ⟨w.heap.size + 1, 0, none⟩) 1 1] 62 j
    rw [World.size_alloc, World.size_alloc] at this
    exact this
  refine (concatI (w.heap.size + 1 + 1) 2 [⟨some ⟨w.heap.size, 0, none⟩, 3, [1, 3, 2]⟩, ⟨some ⟨w.heap.size + 1, 0, none⟩, 1, [4]⟩] _ (by simp) (by simp) (by simp) (fun j hj => by rw [k3]; match j, hj with | 0, _ => rfl | 1, _ => rfl) (by simp only [List.mem_cons, List.not_mem_nil, or_false]; rintro r (rfl | rfl); exact k1; exact k2)).mono ?_
  rintro e w1 ⟨v1, rfl, hown, hb⟩
  have hb0 : Below w.heap.size w w1 := ((((Below.refl _ _).alloc (Nat.le_refl _) _).alloc (by simp) _).alloc (by simp; omega) _).trans (hb.mono (by simp; omega))
  have k5 : IAt w1 (some ⟨w.heap.size, 0, none⟩) [1, 3, 2] := k1.below hb
  have hsz := hb.size
  simp only [World.size_alloc] at hsz
  rw [World.size_alloc, World.size_alloc, World.size_alloc] at hown
  have hown' : w1.ownsRow (w.heap.size + 1 + 1 + 1) 3 1 v1 ([1, 3, 2, 4] : List Int).length (icells [1, 3, 2, 4]) := hown
  clear k1 k2 k3 hown hb
  obtain ⟨A, c, rfl, hA⟩ := iat_of_own hown'
  clear hown'
  go_wp2_with fail
  have j0 : ∀ j, (w1.alloc (.cells #[.slice A 4 c, .slice (some ⟨w.heap.size, 0, none⟩) 3 3] 62)).cell? ⟨w1.heap.size, j, none⟩ = (#[.slice A 4 c, .slice (some ⟨w.heap.size, 0, none⟩) 3 3] : Array Value)[j]? := fun j => by
    have := new_cell w1 #[.slice A 4 c, .slice (some ⟨w.heap.size, 0, none⟩) 3 3] 62 j
    skip
    exact this
  have j1 : IAt (w1.alloc (.cells #[.slice A 4 c, .slice (some ⟨w.heap.size, 0, none⟩) 3 3] 62)) A [1, 3, 2, 4] := iat_alloc hA _
  have j2 : IAt (w1.alloc (.cells #[.slice A 4 c, .slice (some ⟨w.heap.size, 0, none⟩) 3 3] 62)) (some ⟨w.heap.size, 0, none⟩) [1, 3, 2] := iat_alloc k5 _
  refine (concatI (w1.heap.size) 2 [⟨A, c, [1, 3, 2, 4]⟩, ⟨some ⟨w.heap.size, 0, none⟩, 3, [1, 3, 2]⟩] _ (by simp) (by simp) (by simp) (fun j hj => by rw [j0]; match j, hj with | 0, _ => rfl | 1, _ => rfl) (by simp only [List.mem_cons, List.not_mem_nil, or_false]; rintro r (rfl | rfl); exact j1; exact j2)).mono ?_
  rintro e w2 ⟨v2, rfl, hown2, hb2⟩
  have hb3 := hb2.mono (B' := w.heap.size) (by simp; omega)
  have hbel : Below w.heap.size w w2 := (hb0.alloc hb0.size _).trans hb3
  clear j0 j1 j2 k5 hA
  go_wp2_with fail
  go_ret
  exact ⟨_, rfl, own_base hown2 (by simp; omega), hbel⟩
set_option maxHeartbeats 1000000 in
set_option maxRecDepth 100000 in
theorem shapeOf3 (w : World) : Calls Try.prog 47 #[.int .i64 3] w (IPost (shapeK 3) w) := by
  go_enter Try.func47, Try.ntmps47
  go_wp2_with fail
  have k1 : IAt (((w.alloc (.cells #[.int .i64 1, .int .i64 3, .int .i64 2] 3)).alloc (.cells #[.int .i64 4] 3)).alloc (.cells #[.slice (some ⟨w.heap.size, 0, none⟩) 3 3, .slice (some ⟨w.heap.size + 1, 0, none⟩) 1 1] 62)) (some ⟨w.heap.size, 0, none⟩) [1, 3, 2] := iat_alloc (iat_alloc (iat_new w [1, 3, 2] _) _) _
  have k2 : IAt (((w.alloc (.cells #[.int .i64 1, .int .i64 3, .int .i64 2] 3)).alloc (.cells #[.int .i64 4] 3)).alloc (.cells #[.slice (some ⟨w.heap.size, 0, none⟩) 3 3, .slice (some ⟨w.heap.size + 1, 0, none⟩) 1 1] 62)) (some ⟨w.heap.size + 1, 0, none⟩) [4] := by
    have := iat_new (w.alloc (.cells #[.int .i64 1, .int .i64 3, .int .i64 2] 3)) [4] 3
    rw [World.size_alloc] at this
    exact iat_alloc this _
  have k3 : ∀ j, (((w.alloc (.cells #[.int .i64 1, .int .i64 3, .int .i64 2] 3)).alloc (.cells #[.int .i64 4] 3)).alloc (.cells #[.slice (some ⟨w.heap.size, 0, none⟩) 3 3, .slice (some ⟨w.heap.size + 1, 0, none⟩) 1 1] 62)).cell? ⟨w.heap.size + 1 + 1, j, none⟩ = (#[.slice (some ⟨w.heap.size, 0, none⟩) 3 3, .slice (some ⟨w.heap.size + 1, 0, none⟩) 1 1] : Array Value)[j]? := fun j => by
    have := new_cell ((w.alloc (.cells #[.int .i64 1, .int .i64 3, .int .i64 2] 3)).alloc (.cells #[.int .i64 4] 3)) #[.slice (some ⟨w.heap.size, 0, none⟩) 3 3, .slice (some ⟨w.heap.size + 1, 0, none⟩) 1 1] 62 j
    rw [World.size_alloc, World.size_alloc] at this
    exact this
  refine (concatI (w.heap.size + 1 + 1) 2 [⟨some ⟨w.heap.size, 0, none⟩, 3, [1, 3, 2]⟩, ⟨some ⟨w.heap.size + 1, 0, none⟩, 1, [4]⟩] _ (by simp) (by simp) (by simp) (fun j hj => by rw [k3]; match j, hj with | 0, _ => rfl | 1, _ => rfl) (by simp only [List.mem_cons, List.not_mem_nil, or_false]; rintro r (rfl | rfl); exact k1; exact k2)).mono ?_
  rintro e w1 ⟨v1, rfl, hown, hb⟩
  have hb0 : Below w.heap.size w w1 := ((((Below.refl _ _).alloc (Nat.le_refl _) _).alloc (by simp) _).alloc (by simp; omega) _).trans (hb.mono (by simp; omega))
  have k5 : IAt w1 (some ⟨w.heap.size, 0, none⟩) [1, 3, 2] := k1.below hb
  have hsz := hb.size
  simp only [World.size_alloc] at hsz
  rw [World.size_alloc, World.size_alloc, World.size_alloc] at hown
  have hown' : w1.ownsRow (w.heap.size + 1 + 1 + 1) 3 1 v1 ([1, 3, 2, 4] : List Int).length (icells [1, 3, 2, 4]) := hown
  clear k1 k2 k3 hown hb
  obtain ⟨A, c, rfl, hA⟩ := iat_of_own hown'
  clear hown'
  go_wp2_with fail
  have j0 : ∀ j, ((w1.alloc (.cells #[.int .i64 3, .int .i64 2] 3)).alloc (.cells #[.slice A 4 c, .slice (some ⟨w.heap.size, 0, none⟩) 3 3, .slice (some ⟨w1.heap.size, 0, none⟩) 2 2] 62)).cell? ⟨w1.heap.size + 1, j, none⟩ = (#[.slice A 4 c, .slice (some ⟨w.heap.size, 0, none⟩) 3 3, .slice (some ⟨w1.heap.size, 0, none⟩) 2 2] : Array Value)[j]? := fun j => by
    have := new_cell (w1.alloc (.cells #[.int .i64 3, .int .i64 2] 3)) #[.slice A 4 c, .slice (some ⟨w.heap.size, 0, none⟩) 3 3, .slice (some ⟨w1.heap.size, 0, none⟩) 2 2] 62 j
    rw [World.size_alloc] at this
    exact this
  have j1 : IAt ((w1.alloc (.cells #[.int .i64 3, .int .i64 2] 3)).alloc (.cells #[.slice A 4 c, .slice (some ⟨w.heap.size, 0, none⟩) 3 3, .slice (some ⟨w1.heap.size, 0, none⟩) 2 2] 62)) A [1, 3, 2, 4] := iat_alloc (iat_alloc hA _) _
  have j2 : IAt ((w1.alloc (.cells #[.int .i64 3, .int .i64 2] 3)).alloc (.cells #[.slice A 4 c, .slice (some ⟨w.heap.size, 0, none⟩) 3 3, .slice (some ⟨w1.heap.size, 0, none⟩) 2 2] 62)) (some ⟨w.heap.size, 0, none⟩) [1, 3, 2] := iat_alloc (iat_alloc k5 _) _
  have j3 : IAt ((w1.alloc (.cells #[.int .i64 3, .int .i64 2] 3)).alloc (.cells #[.slice A 4 c, .slice (some ⟨w.heap.size, 0, none⟩) 3 3, .slice (some ⟨w1.heap.size, 0, none⟩) 2 2] 62)) (some ⟨w1.heap.size, 0, none⟩) [3, 2] := iat_alloc (iat_new w1 [3, 2] _) _
  refine (concatI (w1.heap.size + 1) 3 [⟨A, c, [1, 3, 2, 4]⟩, ⟨some ⟨w.heap.size, 0, none⟩, 3, [1, 3, 2]⟩, ⟨some ⟨w1.heap.size, 0, none⟩, 2, [3, 2]⟩] _ (by simp) (by simp) (by simp) (fun j hj => by rw [j0]; match j, hj with | 0, _ => rfl | 1, _ => rfl | 2, _ => rfl) (by simp only [List.mem_cons, List.not_mem_nil, or_false]; rintro r (rfl | rfl | rfl); exact j1; exact j2; exact j3)).mono ?_
  rintro e w2 ⟨v2, rfl, hown2, hb2⟩
  have hb3 := hb2.mono (B' := w.heap.size) (by simp; omega)
  have hbel : Below w.heap.size w w2 := ((hb0.alloc hb0.size _).alloc (by simp; omega) _).trans hb3
  clear j0 j1 j2 j3 k5 hA
  go_wp2_with fail
  go_ret
  exact ⟨_, rfl, own_base hown2 (by simp; omega), hbel⟩
set_option maxHeartbeats 1000000 in
set_option maxRecDepth 100000 in
theorem shapeOf4 (w : World) : Calls Try.prog 47 #[.int .i64 4] w (IPost (shapeK 4) w) := by
  go_enter Try.func47, Try.ntmps47
  go_wp2_with fail
  have k1 : IAt (((w.alloc (.cells #[.int .i64 1, .int .i64 3, .int .i64 2] 3)).alloc (.cells #[.int .i64 4] 3)).alloc (.cells #[.slice (some ⟨w.heap.size, 0, none⟩) 3 3, .slice (some ⟨w.heap.size + 1, 0, none⟩) 1 1] 62)) (some ⟨w.heap.size, 0, none⟩) [1, 3, 2] := iat_alloc (iat_alloc (iat_new w [1, 3, 2] _) _) _
  have k2 : IAt (((w.alloc (.cells #[.int .i64 1, .int .i64 3, .int .i64 2] 3)).alloc (.cells #[.int .i64 4] 3)).alloc (.cells #[.slice (some ⟨w.heap.size, 0, none⟩) 3 3, .slice (some ⟨w.heap.size + 1, 0, none⟩) 1 1] 62)) (some ⟨w.heap.size + 1, 0, none⟩) [4] := by
    have := iat_new (w.alloc (.cells #[.int .i64 1, .int .i64 3, .int .i64 2] 3)) [4] 3
    rw [World.size_alloc] at this
    exact iat_alloc this _
  have k3 : ∀ j, (((w.alloc (.cells #[.int .i64 1, .int .i64 3, .int .i64 2] 3)).alloc (.cells #[.int .i64 4] 3)).alloc (.cells #[.slice (some ⟨w.heap.size, 0, none⟩) 3 3, .slice (some ⟨w.heap.size + 1, 0, none⟩) 1 1] 62)).cell? ⟨w.heap.size + 1 + 1, j, none⟩ = (#[.slice (some ⟨w.heap.size, 0, none⟩) 3 3, .slice (some ⟨w.heap.size + 1, 0, none⟩) 1 1] : Array Value)[j]? := fun j => by
    have := new_cell ((w.alloc (.cells #[.int .i64 1, .int .i64 3, .int .i64 2] 3)).alloc (.cells #[.int .i64 4] 3)) #[.slice (some ⟨w.heap.size, 0, none⟩) 3 3, .slice (some ⟨w.heap.size + 1, 0, none⟩) 1 1] 62 j
    rw [World.size_alloc, World.size_alloc] at this
    exact this
  refine (concatI (w.heap.size + 1 + 1) 2 [⟨some ⟨w.heap.size, 0, none⟩, 3, [1, 3, 2]⟩, ⟨some ⟨w.heap.size + 1, 0, none⟩, 1, [4]⟩] _ (by simp) (by simp) (by simp) (fun j hj => by rw [k3]; match j, hj with | 0, _ => rfl | 1, _ => rfl) (by simp only [List.mem_cons, List.not_mem_nil, or_false]; rintro r (rfl | rfl); exact k1; exact k2)).mono ?_
  rintro e w1 ⟨v1, rfl, hown, hb⟩
  have hb0 : Below w.heap.size w w1 := ((((Below.refl _ _).alloc (Nat.le_refl _) _).alloc (by simp) _).alloc (by simp; omega) _).trans (hb.mono (by simp; omega))
  have k5 : IAt w1 (some ⟨w.heap.size, 0, none⟩) [1, 3, 2] := k1.below hb
  have hsz := hb.size
  simp only [World.size_alloc] at hsz
  rw [World.size_alloc, World.size_alloc, World.size_alloc] at hown
  have hown' : w1.ownsRow (w.heap.size + 1 + 1 + 1) 3 1 v1 ([1, 3, 2, 4] : List Int).length (icells [1, 3, 2, 4]) := hown
  clear k1 k2 k3 hown hb
  obtain ⟨A, c, rfl, hA⟩ := iat_of_own hown'
  clear hown'
  go_wp2_with fail
  have j0 : ∀ j, ((w1.alloc (.cells #[.int .i64 5] 3)).alloc (.cells #[.slice A 4 c, .slice (some ⟨w.heap.size, 0, none⟩) 3 3, .slice (some ⟨w1.heap.size, 0, none⟩) 1 1, .slice (some ⟨w.heap.size, 0, none⟩) 3 3] 62)).cell? ⟨w1.heap.size + 1, j, none⟩ = (#[.slice A 4 c, .slice (some ⟨w.heap.size, 0, none⟩) 3 3, .slice (some ⟨w1.heap.size, 0, none⟩) 1 1, .slice (some ⟨w.heap.size, 0, none⟩) 3 3] : Array Value)[j]? := fun j => by
    have := new_cell (w1.alloc (.cells #[.int .i64 5] 3)) #[.slice A 4 c, .slice (some ⟨w.heap.size, 0, none⟩) 3 3, .slice (some ⟨w1.heap.size, 0, none⟩) 1 1, .slice (some ⟨w.heap.size, 0, none⟩) 3 3] 62 j
    rw [World.size_alloc] at this
    exact this
  have j1 : IAt ((w1.alloc (.cells #[.int .i64 5] 3)).alloc (.cells #[.slice A 4 c, .slice (some ⟨w.heap.size, 0, none⟩) 3 3, .slice (some ⟨w1.heap.size, 0, none⟩) 1 1, .slice (some ⟨w.heap.size, 0, none⟩) 3 3] 62)) A [1, 3, 2, 4] := iat_alloc (iat_alloc hA _) _
  have j2 : IAt ((w1.alloc (.cells #[.int .i64 5] 3)).alloc (.cells #[.slice A 4 c, .slice (some ⟨w.heap.size, 0, none⟩) 3 3, .slice (some ⟨w1.heap.size, 0, none⟩) 1 1, .slice (some ⟨w.heap.size, 0, none⟩) 3 3] 62)) (some ⟨w.heap.size, 0, none⟩) [1, 3, 2] := iat_alloc (iat_alloc k5 _) _
  have j3 : IAt ((w1.alloc (.cells #[.int .i64 5] 3)).alloc (.cells #[.slice A 4 c, .slice (some ⟨w.heap.size, 0, none⟩) 3 3, .slice (some ⟨w1.heap.size, 0, none⟩) 1 1, .slice (some ⟨w.heap.size, 0, none⟩) 3 3] 62)) (some ⟨w1.heap.size, 0, none⟩) [5] := iat_alloc (iat_new w1 [5] _) _
  refine (concatI (w1.heap.size + 1) 4 [⟨A, c, [1, 3, 2, 4]⟩, ⟨some ⟨w.heap.size, 0, none⟩, 3, [1, 3, 2]⟩, ⟨some ⟨w1.heap.size, 0, none⟩, 1, [5]⟩, ⟨some ⟨w.heap.size, 0, none⟩, 3, [1, 3, 2]⟩] _ (by simp) (by simp) (by simp) (fun j hj => by rw [j0]; match j, hj with | 0, _ => rfl | 1, _ => rfl | 2, _ => rfl | 3, _ => rfl) (by simp only [List.mem_cons, List.not_mem_nil, or_false]; rintro r (rfl | rfl | rfl | rfl); exact j1; exact j2; exact j3; exact j2)).mono ?_
  rintro e w2 ⟨v2, rfl, hown2, hb2⟩
  have hb3 := hb2.mono (B' := w.heap.size) (by simp; omega)
  have hbel : Below w.heap.size w w2 := ((hb0.alloc hb0.size _).alloc (by simp; omega) _).trans hb3
  clear j0 j1 j2 j3 k5 hA
  go_wp2_with fail
  go_ret
  exact ⟨_, rfl, own_base hown2 (by simp; omega), hbel⟩
theorem shapeOf (k : Nat) (h1 : 1 ≤ k) (h4 : k ≤ 4) (w : World) : Calls Try.prog 47 #[.int .i64 k] w (IPost (shapeK k) w) := by
  match k, h1, h4 with
  | 1, _, _ => exact shapeOf1 w
  | 2, _, _ => exact shapeOf2 w
  | 3, _, _ => exact shapeOf3 w
  | 4, _, _ => exact shapeOf4 w
end Go.Proofs.Ytofhiolmaojihaa.SynH
