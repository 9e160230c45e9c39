/- slices.DeleteFunc at statements, with not's closure, and pick, by contract. -/
import Derived.Test.YtblapgfilbmdhaaGreatDoorM21
import Derived.Test.YtblapgfilbmdhaaGreatDoorM05
import Derived.Test.YtblapgfilbmdhaaGreatDoorM06
import Derived.Test.YtblapgfilbmdhaaGreatDoorM20
set_option linter.unusedVariables false
set_option linter.unusedSimpArgs false
namespace Go.Proofs.YtblapgfilbmdhaaGreatDoor.StD
open Go.Shelf Go.RowKit Go.Sort Go.Lib Go.Proofs Plain SynP Grown SynC SynD SynD2 SynD3 SynD7 SynD8 PolE StA StB StC
structure DelInv (p : St → Bool) (d : Array St) (m k : Nat) (dk : Array St) : Prop where
  size : dk.size = d.size
  lt : k < m
  le : m ≤ d.size
  low : dk.toList.take k = (d.toList.take m).filter p
  len : ((d.toList.take m).filter p).length = k
  high : ∀ j, m ≤ j → dk[j]! = d[j]!
theorem take_snoc (d : Array St) {m : Nat} (hm : m < d.size) : d.toList.take (m + 1) = d.toList.take m ++ [d[m]!] := by
  rw [List.take_succ_eq_append_getElem (by simpa using hm), getElem!_pos d m hm]
  simp
theorem DelInv.start {p : St → Bool} {d : Array St} {i : Nat} (hi : i < d.size) (hall : ∀ j, j < i → p d[j]! = true) (hno : p d[i]! = false) : DelInv p d (i + 1) i d := by
  have hf : (d.toList.take i).filter p = d.toList.take i := by
    rw [List.filter_eq_self]
    intro x hx
    obtain ⟨j, hj, rfl⟩ := List.getElem_of_mem hx
    rw [List.length_take, Array.length_toList] at hj
    have := hall j (by omega)
    rw [getElem!_pos d j (by omega)] at this
    simpa using this
  refine ⟨rfl, by omega, by omega, ?_, ?_, fun _ _ => rfl⟩
  · rw [take_snoc d hi, List.filter_append, hf]; simp [hno]
  · rw [take_snoc d hi, List.filter_append, hf]; simp [hno]; omega
theorem DelInv.skip {p : St → Bool} {d dk : Array St} {m k : Nat} (h : DelInv p d m k dk) (hm : m < d.size) (hno : p d[m]! = false) : DelInv p d (m + 1) k dk := by
  refine ⟨h.size, by have := h.lt; omega, by omega, ?_, ?_, fun j hj => h.high j (by omega)⟩
  · rw [take_snoc d hm, List.filter_append, ← h.low]; simp [hno]
  · rw [take_snoc d hm, List.filter_append, List.length_append, h.len]; simp [hno]
theorem DelInv.keep {p : St → Bool} {d dk : Array St} {m k : Nat} (h : DelInv p d m k dk) (hm : m < d.size) (hp : p d[m]! = true) : DelInv p d (m + 1) (k + 1) (dk.setIfInBounds k d[m]!) := by
  have hlt := h.lt
  have hsz := h.size
  refine ⟨by simpa using h.size, by omega, by omega, ?_, ?_, fun j hj => ?_⟩
  · rw [take_snoc d hm, List.filter_append, ← h.low]
    have e : (dk.setIfInBounds k d[m]!).toList = dk.toList.set k d[m]! := by simp
    rw [e, List.take_succ_eq_append_getElem (by simp; omega)]
    simp [hp, List.take_set_of_le]
  · rw [take_snoc d hm, List.filter_append, List.length_append, h.len]; simp [hp]
  · rw [← h.high j (by omega)]
    by_cases hj2 : j < dk.size
    · rw [getElem!_pos (dk.setIfInBounds k d[m]!) j (by simpa using hj2), getElem!_pos dk j hj2, Array.getElem_setIfInBounds_ne (by simpa using hj2) (by omega)]
    · rw [getElem!_neg (dk.setIfInBounds k d[m]!) j (by simpa using hj2), getElem!_neg dk j hj2]
theorem DelInv.done {p : St → Bool} {d dk : Array St} {k : Nat} (h : DelInv p d d.size k dk) : dk.toList.take k = d.toList.filter p := by
  rw [h.low, List.take_of_length_le (by simp)]
structure BX (g b : Nat) (w w' : World) : Prop where
  lo : Below g w w'
  k : w'.heap[b]? = w.heap[b]?
theorem BX.refl (g b : Nat) (w : World) : BX g b w w := ⟨Below.refl _ _, rfl⟩
theorem BX.below {g b : Nat} {w w1 w2 : World} (h : BX g b w w1) (hg : g < w1.heap.size) (hb : b < w1.heap.size) (hx : Below w1.heap.size w1 w2) : BX g b w w2 := ⟨h.lo.trans (hx.mono (Nat.le_of_lt hg)), (hx.block b hb).trans h.k⟩
theorem heap_setCells_ne (g : Nat) : ∀ (vs : List Value) (o : Nat) (w : World) (b : Nat), b ≠ g → (w.setCells g o vs).heap[b]? = w.heap[b]?
  | [], o, w, b, h => rfl
  | v :: r, o, w, b, h => (heap_setCells_ne g r (o + 1) (w.setCell ⟨g, o, none⟩ v) b h).trans (heap_setCell_other w ⟨g, o, none⟩ b v h)
theorem BX.setCells {g b : Nat} {w w1 : World} (h : BX g b w w1) (hne : b ≠ g) (o : Nat) (vs : List Value) : BX g b w (w1.setCells g o vs) := ⟨below_setCells (Nat.le_refl _) _ _ _ h.lo, (heap_setCells_ne g vs o w1 b hne).trans h.k⟩
def DelPost (g cap b : Nat) (p : St → Bool) (d : Array St) (w : World) (e : Ending) (w' : World) : Prop :=
  ∃ d' : Array St, e = .returned (.slice (some ⟨g, 0, none⟩) d'.size cap) ∧ d'.toList = d.toList.filter p ∧ HoldsK St.cells 9 w' g 0 d' ∧ BX g b w w' ∧ w.heap.size ≤ w'.heap.size
theorem del_none {g cap b : Nat} {p : St → Bool} {d : Array St} {w w' : World} (hH : HoldsK St.cells 9 w g 0 d) (hg : g < w.heap.size) (hlb : b < w.heap.size) (hb : Below w.heap.size w w') (h : d.toList.all p = true) : DelPost g cap b p d w (.returned (.slice (some ⟨g, 0, none⟩) d.size cap)) w' := by
  refine ⟨d, rfl, ?_, holds_block hH (hb.block g hg), (BX.refl g b w).below hg hlb hb, hb.size⟩
  symm
  rw [List.filter_eq_self]
  intro x hx
  exact List.all_eq_true.1 h x hx
theorem holds_take {w : World} {g k : Nat} {d : Array St} (h : HoldsK St.cells 9 w g 0 d) (hk : k ≤ d.size) : HoldsK St.cells 9 w g 0 (d.toList.take k).toArray :=
  holds_low h _ (by rw [List.length_take, Array.length_toList]; omega) fun j hj => by
    rw [List.length_take, Array.length_toList] at hj
    rw [getElem!_pos d j (by omega)]; simp
theorem del_end {g cap kk b : Nat} {p : St → Bool} {d dk : Array St} {w wr : World} (hH : HoldsK St.cells 9 wr g 0 dk) (hb : BX g b w wr) (hne : b ≠ g) (hs : w.heap.size ≤ wr.heap.size) (hI : DelInv p d d.size kk dk) : DelPost g cap b p d w (.returned (.slice (some ⟨g, 0, none⟩) kk cap)) (wr.setCells g (kk * 9) (clr (d.size - kk))) := by
  have hlt := hI.lt
  have hsz := hI.size
  have hz : (dk.toList.take kk).toArray.size = kk := by simp; omega
  refine ⟨(dk.toList.take kk).toArray, by rw [hz], ?_, SynD8.holds_out (holds_take hH (by omega)) (by rw [hz]; exact Nat.le_refl _) _, hb.setCells hne _ _, by rw [size_setCells]; exact hs⟩
  rw [hI.low, show d.toList.take d.size = d.toList from List.take_of_length_le (by simp)]
theorem start_of {p : St → Bool} {d : Array St} {k : Nat} (hk : k < d.toList.length) (hall : ∀ j, (hj : j < k) → p (d.toList[j]'(by omega)) = true) (hno : p d.toList[k] = false) : DelInv p d (k + 1) k d := by
  have hk2 : k < d.size := by simpa using hk
  refine DelInv.start hk2 (fun j hj => ?_) ?_
  · have := hall j hj
    rw [getElem!_pos d j (by omega)]
    simpa using this
  · rw [getElem!_pos d k hk2]
    simpa using hno
set_option maxHeartbeats 1000000 in
theorem idxNone (f : Value) (w : World) : Calls Tryz.prog 230 #[.slice none 0 0, f] w fun e w' => e = .returned (.int .i64 (-1)) ∧ w' = w := by
  go_enter Tryz.func230, Tryz.ntmps230
  go_wp2_with fail
  go_loop [8] (fun i => i = .int .i64 0) (fun i => 0)
  case atStart => rfl
  case round =>
    subst hrel
    go_wp2_with fail
    go_ret
    exact ⟨rfl, rfl⟩
theorem delNone (f : Value) (w : World) : Calls Tryz.prog 197 #[.slice none 0 0, f] w fun e w' => e = .returned (.slice none 0 0) ∧ w' = w := by
  have HI := Lib.hid (idxNone f w)
  go_enter Tryz.func197, Tryz.ntmps197
  go_wp2_with fail
  refine HI.out.mono ?_
  rintro e w1 ⟨rfl, rfl⟩
  go_wp2_with fail
  go_ret
  exact ⟨rfl, rfl⟩
end Go.Proofs.YtblapgfilbmdhaaGreatDoor.StD
namespace Go.Proofs.YtblapgfilbmdhaaGreatDoor.StE
open Go.Shelf Go.RowKit Go.Sort Go.Lib Go.Proofs Plain SynP Grown SynC SynD SynD2 SynD3 SynD7 SynD8 PolE StA StB StC StD
end Go.Proofs.YtblapgfilbmdhaaGreatDoor.StE
namespace Go.Proofs.YtblapgfilbmdhaaGreatDoor.StF
open Go.Shelf Go.RowKit Go.Sort Go.Lib Go.Proofs Plain SynP Grown SynC SynD SynD2 SynD3 SynD7 SynD8 PolE StA StB StC StD StE
set_option maxRecDepth 100000 in
theorem union (A B : Option Addr) (ca cb : Nat) (L M : List St) (w : World) (hL : L.length ≤ 1000) (hM : M.length ≤ 1000) (hA : SG w A L) (hB : SG w B M) :
    Calls Tryz.prog 46 #[.slice A L.length ca, .slice B M.length cb] w (OwnPost (sortL cmpS [] (L ++ M)) w) := by
  have HG := Lib.hid (gather2 A B ca cb L M w hL hM hA hB)
  generalize sortL cmpS [] (L ++ M) = R at *
  clear hA hB
  go_enter Tryz.func46, Tryz.ntmps46
  go_wp2_with fail
  refine HG.out.mono ?_
  intro e w1 hp
  obtain ⟨v, rfl, ho, hb1⟩ := hp
  have HE : Hid (OwnPost R w (.returned v) w1) := Lib.hid ⟨v, rfl, ho, hb1⟩
  obtain ⟨B, cb, rfl, _⟩ := ho.form
  clear ho hb1 HG
  go_wp2_with fail
  go_ret
  exact HE.out
end Go.Proofs.YtblapgfilbmdhaaGreatDoor.StF
