/- The library's iterator over a text's lines. -/
import Derived.Test.YtkmonmpfbchffaaGreatM24
import Derived.Shelf.Abstract
import Derived.Shelf.RegionOpen
import Derived.WalkKit
import Derived.OwnWalkIn
import Derived.TacticsInMore
import Derived.LoopNIn
import Derived.LoopIn
import Derived.Deep.RegionLaw
import Derived.IntWalk
import Derived.RangeFuncBox
import Derived.OrdersIn
import Derived.TacticsIn
import Derived.Maps.AppendAt
import Derived.Test.YtkmonmpfbchffaaGreatM21
import Derived.Test.YtkmonmpfbchffaaGreatShelf
import Derived.Lib.Builder
import Derived.Lib.AppendStr
import Derived.Lib.UnsafeStr
import Derived.Lib.OthersKept
import Derived.Laws.Externs
import Derived.OwnWalk
namespace Go.Proofs.YtkmonmpfbchffaaGreat.LinesIter
set_option linter.unusedVariables false
set_option linter.unusedSimpArgs false
open Go.RowKit Go.Shelf Go.Sort Go.Proofs Go.Proofs.YtkmonmpfbchffaaGreat.Plain Go.Proofs.YtkmonmpfbchffaaGreat.Leaf Go.Proofs.YtkmonmpfbchffaaGreat.Named Go.Proofs.YtkmonmpfbchffaaGreat.Trim Go.Proofs.YtkmonmpfbchffaaGreat.TabP Go.Proofs.YtkmonmpfbchffaaGreat.Tab1 Go.Proofs.YtkmonmpfbchffaaGreat.Lines1 Go.Proofs.YtkmonmpfbchffaaGreat.Range
attribute [local go_sem] Oper.semAt_some
theorem idx_split (l : List UInt8) : (Lib.indexByte l 10 = -1 ∧ ∀ x ∈ l, x ≠ 10) ∨ ∃ p q, l = p ++ 10 :: q ∧ (∀ x ∈ p, x ≠ 10) ∧ Lib.indexByte l 10 = p.length := by
  induction l with
  | nil => exact .inl ⟨rfl, by simp⟩
  | cons b l ih =>
    unfold Lib.indexByte
    by_cases h : b = 10
    · subst h
      exact .inr ⟨[], l, rfl, by simp, by simp⟩
    · have hb : (b == 10) = false := by simpa using h
      simp only [hb, Bool.false_eq_true, if_false]
      rcases ih with ⟨h1, h2⟩ | ⟨p, q, h1, h2, h3⟩
      · left
        rw [h1]
        exact ⟨by simp, fun x hx => by rcases List.mem_cons.1 hx with e | e; · rw [e]; exact h
                                       · exact h2 x e⟩
      · right
        refine ⟨b :: p, q, by rw [h1]; rfl, fun x hx => by rcases List.mem_cons.1 hx with e | e; · rw [e]; exact h
                                                           · exact h2 x e, ?_⟩
        rw [h3, if_neg (by rw [beq_iff_eq]; omega)]
        simp
theorem lnA_nl (acc p q : List UInt8) (h : ∀ x ∈ p, x ≠ 10) : lnA acc (p ++ 10 :: q) = (acc ++ p) :: lnA [] q := by
  induction p generalizing acc with
  | nil => rw [List.nil_append, List.append_nil]; conv => lhs; unfold lnA
           rw [if_pos rfl]
  | cons a p ih =>
    rw [List.cons_append]
    conv => lhs; unfold lnA
    rw [if_neg (h a (by simp)), ih _ fun x hx => h x (by simp [hx]), List.append_assoc]
    rfl
theorem lnA_none (acc l : List UInt8) (h : ∀ x ∈ l, x ≠ 10) (hne : acc ++ l ≠ []) : lnA acc l = [acc ++ l] := by
  induction l generalizing acc with
  | nil => rw [List.append_nil] at hne ⊢; unfold lnA; rw [if_neg hne]
  | cons a l ih =>
    conv => lhs; unfold lnA
    rw [if_neg (h a (by simp)), ih _ (fun x hx => h x (by simp [hx])) (by simp), List.append_assoc]
    rfl
/-- A line without the newline at its end. -/
def strip (b : ByteArray) : Str := Lib.trimSuffix b.data.toList [10]
theorem trim_nl (p : List UInt8) : Lib.trimSuffix (p ++ [10]) [10] = p := by
  unfold Lib.trimSuffix Lib.hasSuffix
  rw [if_pos (List.isSuffixOf_iff_suffix.2 (List.suffix_append p [10]))]
  simp
theorem trim_none (l : List UInt8) (h : ∀ x ∈ l, x ≠ 10) : Lib.trimSuffix l [10] = l := by
  unfold Lib.trimSuffix Lib.hasSuffix
  rw [if_neg]
  intro hs
  exact h 10 ((List.isSuffixOf_iff_suffix.1 hs).subset (by simp)) rfl
def restSize (W : World) (B : Nat) : Nat := match W.cell? ⟨B, 0, none⟩ with | some (.string b) => b.size | _ => 0
theorem restSize_of {W : World} {B : Nat} {t : TypeId} {b : ByteArray} (h : Boxed W B t (.string b)) : restSize W B = b.size := by unfold restSize; rw [h.cell]
abbrev Pf (s rest : ByteArray) (pre : List ByteArray) : Prop := pre.map strip ++ lnA [] rest.data.toList = linesOf s
theorem ext_take (b : ByteArray) (i : Nat) : (b.extract 0 i).data.toList = b.data.toList.take i := by rw [ext_list]; simp
theorem ext_drop (b : ByteArray) (i : Nat) : (b.extract i b.size).data.toList = b.data.toList.drop i := by
  rw [ext_list, List.take_of_length_le (by rw [List.length_drop, toList_len]; omega)]
theorem pf_nl {s rest : ByteArray} {pre : List ByteArray} {p q : List UInt8} (h : Pf s rest pre) (e : rest.data.toList = p ++ 10 :: q) (hp : ∀ x ∈ p, x ≠ 10) :
    Pf s (rest.extract (p.length + 1) rest.size) (pre ++ [rest.extract 0 (p.length + 1)]) := by
  unfold Pf at *
  rw [← h, ext_drop, e, lnA_nl _ _ _ hp, List.map_append, List.append_assoc, List.map_singleton, strip, ext_take, e]
  have e1 : (p ++ 10 :: q).take (p.length + 1) = p ++ [10] := by rw [show p ++ 10 :: q = (p ++ [10]) ++ q from by simp, List.take_left' (by simp)]
  have e2 : (p ++ 10 :: q).drop (p.length + 1) = q := by rw [show p ++ 10 :: q = (p ++ [10]) ++ q from by simp, List.drop_left' (by simp)]
  rw [e1, e2, trim_nl]
  rfl
theorem pf_none {s rest : ByteArray} {pre : List ByteArray} (h : Pf s rest pre) (h0 : 0 < rest.size) (hp : ∀ x ∈ rest.data.toList, x ≠ 10) : Pf s ⟨#[]⟩ (pre ++ [rest]) := by
  unfold Pf at *
  rw [← h, lnA_none _ _ hp (by intro e; have := toList_len rest; rw [List.nil_append] at e; rw [e] at this; simp at this; omega), List.map_append, List.append_assoc, List.map_singleton, strip, trim_none _ hp]
  rfl
theorem pf_end {s rest : ByteArray} {pre : List ByteArray} (h : Pf s rest pre) (h0 : ¬ 0 < rest.size) : pre.map strip = linesOf s := by
  unfold Pf at h
  rw [List.eq_nil_of_length_eq_zero (show rest.data.toList.length = 0 by rw [toList_len]; omega)] at h
  rw [← h]
  exact (List.append_nil _).symm
set_option maxRecDepth 100000 in
set_option maxHeartbeats 1000000 in
theorem linesIter (s : ByteArray) (hs : s.size ≤ 100000) (n l B : Nat) (I J : List ByteArray → World → Prop) (hJI : ∀ pre W, J pre W → I pre W) (hJk : ∀ pre W W', J pre W → KeepsOthers W W' → I pre W' → J pre W')
    (hIs : ∀ pre W v, I pre W → I pre (W.setCell ⟨B, 0, none⟩ v)) (hId : ∀ pre W, I pre W → I pre W.drew)
    (hY : ∀ pre (x : ByteArray) W, J pre W → pre.length < s.size → x.size ≤ 100000 → YieldAt Fence.wide (n - 1) Tryz.prog l #[.string x] W fun e W' => e = .returned (.bool true) ∧ J (pre ++ [x]) W' ∧ (∀ v, Boxed W B 9 v → Boxed W' B 9 v))
    (W : World) (hb : Boxed W B 9 (.string s)) (h0 : J [] W) :
    CallsIn Fence.wide n Tryz.prog 191 #[.func (.yield l) #[] #[], .pointer (some ⟨B, 0, none⟩)] W fun e W' => (∃ v, e = .returned v) ∧ ∃ xs, xs.map strip = linesOf s ∧ J xs W' := by
  refine callsIn_of_wp Tryz.func191 rfl trivial ?_ rfl
  simp only [Tryz.ntmps191, List.size_toArray, List.length_cons, List.length_nil, Nat.reduceAdd, Nat.reduceSub, Array.replicate_succ, Array.replicate_zero, List.push_toArray, List.append_toArray, List.nil_append, List.cons_append]
  gi_wp2
  gi_loopw [3] (fun _ wr => ∃ (pre : List ByteArray) (rest : ByteArray), Boxed wr B 9 (.string rest) ∧ pre.length + rest.size ≤ s.size ∧ Hid (Pf s rest pre) ∧ J pre wr) (fun _ wr => restSize wr B)
  case atStart => exact ⟨[], s, hb, by simp, Lib.hid rfl, h0⟩
  case round =>
    obtain ⟨pre, rest, hbx, hle, hpf, hJ⟩ := hrel
    have hc := hbx.cell
    have hf := hbx.frozen
    have hm := restSize_of hbx
    by_cases h0 : 0 < rest.size
    · rcases idx_split rest.data.toList with ⟨h1, h2⟩ | ⟨p, q, h1, h2, h3⟩
      · have hn := Lib.hid (pf_none hpf.out h0 h2)
        have H1 := Lib.hid (show Lib.indexByte rest.data.toList (10 : Int).toNat.toUInt8 = -1 from h1)
        clear h1 h2
        gi_wp2_with fail
        refine ⟨trivial, (fun h => by cases h), (callsIn_wide.2 (Tryz.strings_IndexByte rest 10 _)).mono ?_⟩
        rintro e w' ⟨rfl, rfl⟩
        rw [H1.out]
        have hb2 : Boxed (w'.setCell ⟨B, 0, none⟩ (.string ⟨#[]⟩)) B 9 (.string ⟨#[]⟩) := hbx.set _
        have hJ2 := hJk _ _ _ hJ (KeepsOthers.setCell w' ⟨B, 0, none⟩ (.string ⟨#[]⟩)) (hIs _ _ _ (hJI _ _ hJ))
        obtain ⟨fn, tmps, assign, body, hy, hR⟩ := hY pre rest _ hJ2 (by omega) (by omega)
        gi_wp2_with fail
        refine ⟨(fun h => by cases h), hR.mono ?_⟩
        rintro e W3 ⟨rfl, hJ3, hk3⟩
        have hb3 := hk3 _ hb2
        have hm3 := restSize_of hb3
        gi_wp2_with fail
        go_roundw
        case rel => exact ⟨_, _, hb3, by rw [List.length_append]; show _ + 1 + 0 ≤ _; omega, hn, hJ3⟩
        case measure => rw [hm3, hm]; exact h0
      · have hplt : p.length < rest.size := by rw [← toList_len, h1]; simp
        have hn := Lib.hid (pf_nl hpf.out h1 h2)
        have H3 := Lib.hid (show Lib.indexByte rest.data.toList (10 : Int).toNat.toUInt8 = p.length from h3)
        clear h1 h2 h3
        gi_wp2_with fail
        refine ⟨trivial, (fun h => by cases h), (callsIn_wide.2 (Tryz.strings_IndexByte rest 10 _)).mono ?_⟩
        rintro e w' ⟨rfl, rfl⟩
        rw [H3.out]
        gi_wp2_with fail
        have hw1 : IntKind.i64.wrap ((p.length : Int) + 1) = (p.length : Int) + 1 := IntWalk.i64_in _ (by omega)
        have hw2 : (0 : Int) ≤ (p.length : Int) + 1 := by omega
        have hw3 : ((p.length : Int) + 1).toNat = p.length + 1 := by omega
        have hw4 : (p.length : Int) + 1 ≤ rest.size := by omega
        refine wpIn_wide.2 ?_
        go_region
        have hb2 : Boxed (w'.setCell ⟨B, 0, none⟩ (.string (rest.extract (p.length + 1) rest.size))).drew B 9 (.string (rest.extract (p.length + 1) rest.size)) := hbx.set _
        have hJ2 := hJk _ _ _ hJ ((KeepsOthers.setCell w' ⟨B, 0, none⟩ (.string (rest.extract (p.length + 1) rest.size))).trans (KeepsOthers.drew _)) (hId _ _ (hIs _ _ _ (hJI _ _ hJ)))
        clear hw1 hw2 hw3 hw4 hc hf
        generalize (w'.setCell ⟨B, 0, none⟩ (.string (rest.extract (p.length + 1) rest.size))).drew = W2 at *
        obtain ⟨fn, tmps, assign, body, hy, hR⟩ := hY pre (rest.extract 0 (p.length + 1)) W2 hJ2 (by omega) (by rw [ext_size]; omega)
        gi_wp2_with fail
        refine ⟨(fun h => by cases h), hR.mono ?_⟩
        rintro e W3 ⟨rfl, hJ3, hk3⟩
        have hb3 := hk3 _ hb2
        have hz := ext_size rest (p.length + 1) rest.size
        have hm3 := restSize_of hb3
        gi_wp2_with fail
        go_roundw
        case rel => exact ⟨_, _, hb3, by rw [List.length_append]; show _ + 1 + _ ≤ _; omega, hn, hJ3⟩
        case measure => rw [hm3, hm]; omega
    · have hend := pf_end hpf.out h0
      gi_wp2_with fail
      go_end0
      exact ⟨⟨_, rfl⟩, pre, hend, hJ⟩
end Go.Proofs.YtkmonmpfbchffaaGreat.LinesIter
/- A region that draws its order, within a round: each order that may come up, as a list. -/
namespace Go.Proofs.YtkmonmpfbchffaaGreat.Orders
set_option linter.unusedVariables false
set_option linter.unusedSimpArgs false
def orders (md : Region.Mode) (ops : Array Oper) : Nat → Array Bool → List (List Nat)
  | 0, _ => [[]]
  | fuel + 1, listed => match Region.ready md ops listed with
    | [] => [[]]
    | rs => rs.flatMap fun i => (orders md ops fuel (listed.setIfInBounds i true)).map (i :: ·)
theorem go_mem {md : Region.Mode} {ops : Array Oper} : ∀ (fuel t : Nat) (listed : Array Bool), Region.linearise.go md ops fuel t listed [] ∈ orders md ops fuel listed := by
  intro fuel
  induction fuel with
  | zero => intro t listed; simp [Region.linearise.go, orders]
  | succ fuel ih =>
    intro t listed
    rw [show Region.linearise.go md ops (fuel + 1) t listed [] = (match (Region.ready md ops listed)[t % (Region.ready md ops listed).length]? with
      | some i => Region.linearise.go md ops fuel (t / (Region.ready md ops listed).length) (listed.setIfInBounds i true) [i]
      | none => [].reverse) from by simp only [Region.linearise.go]; rfl]
    unfold orders
    generalize Region.ready md ops listed = rs
    cases rs with
    | nil => simp
    | cons x xs =>
      have hlt : t % (x :: xs).length < (x :: xs).length := Nat.mod_lt _ (by simp)
      rw [List.getElem?_eq_getElem hlt]
      simp only []
      rw [linearise_go_acc, List.reverse_singleton, List.singleton_append, List.mem_flatMap]
      exact ⟨_, List.getElem_mem hlt, List.mem_map.2 ⟨_, ih _ _, rfl⟩⟩
theorem wpIn_region_orders {F : Fence} {n : Nat} {P : Program} {id : Nat} {ops : Array Oper} {Q : Exit → Act → World → Prop} {a : Act} {w : World} (hm : P.follows .mixedOrders = true) (L : List (List Nat))
    (hL : orders .any ops ops.size (Array.replicate ops.size false) = L) (h : ∀ l ∈ L, wpListIn F n P ops Q (l.filterMap fun i => ops[i]?) a w.drew) : (Code.region id ops true).wpIn F n P Q a w := by
  have hl : ∀ (l : List Nat), wpOpsIn F n P ops Q l = wpListIn F n P ops Q (l.filterMap fun i => ops[i]?) := by
    intro l
    induction l with
    | nil => rfl
    | cons i l ih =>
      funext a w
      rw [wpOpsIn_cons, ih]
      unfold wpOpIn
      cases e : ops[i]? with
      | none => rw [List.filterMap_cons_none e]
      | some o => rw [List.filterMap_cons_some e]; rfl
  refine wpIn_region_draw fun t => ?_
  simp only [Region.schedule, hm, Bool.true_or, if_true]
  rw [hl]
  exact h _ (hL ▸ go_mem _ _ _)
end Go.Proofs.YtkmonmpfbchffaaGreat.Orders
/- A text's lines, in the program. -/
namespace Go.Proofs.YtkmonmpfbchffaaGreat.LinesScan
set_option linter.unusedVariables false
set_option linter.unusedSimpArgs false
open Go.RowKit Go.Shelf Go.Sort Go.Proofs Go.Proofs.YtkmonmpfbchffaaGreat.Plain Go.Proofs.YtkmonmpfbchffaaGreat.Leaf Go.Proofs.YtkmonmpfbchffaaGreat.Named Go.Proofs.YtkmonmpfbchffaaGreat.Trim Go.Proofs.YtkmonmpfbchffaaGreat.TabP Go.Proofs.YtkmonmpfbchffaaGreat.Tab1 Go.Proofs.YtkmonmpfbchffaaGreat.Tab2 Go.Proofs.YtkmonmpfbchffaaGreat.Tab3 Go.Proofs.YtkmonmpfbchffaaGreat.Tab4 Go.Proofs.YtkmonmpfbchffaaGreat.Tab5 Go.Proofs.YtkmonmpfbchffaaGreat.Lines1 Go.Proofs.YtkmonmpfbchffaaGreat.Range Go.Proofs.YtkmonmpfbchffaaGreat.LinesIter Go.Proofs.YtkmonmpfbchffaaGreat.Orders
attribute [local go_sem] Oper.semAt_some
theorem linesMk (n : Nat) (s : ByteArray) (w : World) : CallsIn Fence.wide n Tryz.prog 141 #[.string s] w fun e w' => e = .returned (.func (.func 191) #[] #[.pointer (some ⟨w.heap.size, 0, none⟩)]) ∧ w' = w.alloc (.cells #[.string s] 9) := by
  refine callsIn_of_wp Tryz.func141 rfl trivial ?_ rfl
  simp only [Tryz.ntmps141, List.size_toArray, List.length_cons, List.length_nil, Nat.reduceAdd, Nat.reduceSub, Array.replicate_succ, Array.replicate_zero, List.push_toArray, List.append_toArray, List.nil_append, List.cons_append]
  gi_wp2
  go_ret
  exact ⟨rfl, rfl⟩
/-- What the loop's own cells hold when the lines pre have come. -/
def Inv (b : Nat) (w : World) (pre : List ByteArray) (W : World) : Prop :=
  (∃ v, Boxed W b 24 v ∧ W.ownsRow (b + 2) 9 1 v (pre.map strip).length ((pre.map strip).map encStr) ∧ True) ∧ Below b w W
theorem inv_own (b : Nat) (w : World) (h : w.heap.size = b + 2) : OwnFrom w.heap.size (Inv b w) :=
  OwnFrom.and (Own.from (holdsRow_own (b + 2) b 24 9 1 (fun pre : List ByteArray => (pre.map strip).length) (fun pre : List ByteArray => (pre.map strip).map encStr) (fun _ _ => True)) _) (ownFrom_below (by omega) (by omega))
theorem inv_set {b : Nat} {w : World} {pre : List ByteArray} {W : World} (v' : Value) (h : Inv b w pre W) : Inv b w pre (W.setCell ⟨b + 1, 0, none⟩ v') := by
  obtain ⟨⟨v, hv, hrow, _⟩, hB⟩ := h
  refine ⟨⟨v, hv.other (by omega) _, hrow.kept (grownBy_setCell' W (b + 1) v') (.inr ?_), trivial⟩, hB.setCell (p := ⟨b + 1, 0, none⟩) (Nat.le_succ _) v'⟩
  intro e
  have := (hrow.lt _ e).1
  omega
theorem inv_drew {b : Nat} {w : World} {pre : List ByteArray} {W : World} (h : Inv b w pre W) : Inv b w pre W.drew := by
  obtain ⟨⟨v, hv, hrow, _⟩, hB⟩ := h
  exact ⟨⟨v, hv, hrow, trivial⟩, hB.drew⟩
set_option maxRecDepth 100000 in
set_option maxHeartbeats 2000000 in
theorem linesScan (s : ByteArray) (w : World) (hs : s.size ≤ 100000) : Calls Tryz.prog 93 #[.string s] w (RowPost (linesOf s) w) := by
  obtain ⟨i0, hi, hz0, hz1, hz2⟩ := info_parts infoStr
  refine (callsIn_wide (n := 3)).1 ?_
  refine callsIn_of_wp_marks Tryz.func93 rfl trivial ?_ rfl
  simp only [Tryz.ntmps93, List.size_toArray, List.length_cons, List.length_nil, Nat.reduceAdd, Nat.reduceSub, Array.replicate_succ, Array.replicate_zero, List.push_toArray, List.append_toArray, List.nil_append, List.cons_append]
  gi_wp2_with fail
  refine ⟨trivial, (linesMk _ s _).mono ?_⟩
  rintro e w' ⟨rfl, rfl⟩
  have bO := Boxed.new w 24 (.slice none 0 0)
  have bS := Boxed.new (w.alloc (.cells #[.slice none 0 0] 24)) 9 (.string s)
  rw [World.size_alloc] at bS
  have hB0 : Below w.heap.size w ((w.alloc (.cells #[.slice none 0 0] 24)).alloc (.cells #[.string s] 9)) := ((Below.refl _ w).alloc (Nat.le_refl _) _).alloc (by simp) _
  have hsz : ((w.alloc (.cells #[.slice none 0 0] 24)).alloc (.cells #[.string s] 9)).heap.size = w.heap.size + 2 := by simp
  gi_wp2_with fail
  refine rangeAll (n := 3) (by omega) (gf := 191) (lb := #[.pointer (some ⟨w.heap.size + 1, 0, none⟩)]) (by simp [Act.eval]) (enters_of Tryz.func191 (by kernel_rfl) rfl) (encs := fun x : ByteArray => #[Value.string x]) (fun _ => rfl)
    (S := fun xs => xs.map strip = linesOf s) (N := s.size) (Ok := fun x => x.size ≤ 100000) (Kp := fun A B => ∀ v, Boxed A (w.heap.size + 1) 9 v → Boxed B (w.heap.size + 1) 9 v) (fun h k v hv => k v (h v hv))
    (fun W l o o' hl ho hc v hv => (World.putObj_heap_other (by rw [hsz] at hl; omega)).trans hv)
    (Inv w.heap.size ((w.alloc (.cells #[.slice none 0 0] 24)).alloc (.cells #[.string s] 9))) (inv_own _ _ hsz) ⟨⟨_, bO.alloc _, World.ownsRow_nil _ _ _ _, trivial⟩, Below.refl _ _⟩
    (fun x => { tmps := #[.string s, undef, .slice none 0 0, .pointer (some ⟨w.heap.size, 0, none⟩), .string x, .string s, .func (.func 191) #[] #[.pointer (some ⟨w.heap.size + 1, 0, none⟩)], .string x, undef, undef, undef, undef, undef, undef], defers := [] }) ?assign ?body ?seq ?done
  case assign =>
    intro l x W K hK
    gi_wp2
    exact hK
  case body =>
    rintro l pre x W ⟨⟨v, hv, hrow, _⟩, hB⟩ hlt hx
    have hc := hv.cell
    have hk : (pre.map strip).length + 1 ≤ 100000 := by rw [List.length_map]; omega
    have hLx := Lib.hid (show (pre ++ [x]).map strip = pre.map strip ++ [strip x] by simp)
    generalize pre.map strip = L at *
    gi_wp2_with fail
    obtain ⟨sv, hsv⟩ : ∃ sv : ByteArray, Value.string sv = encStr (strip x) := ⟨⟨(strip x).toArray⟩, rfl⟩
    have htrim := Lib.hid (show Calls Tryz.prog 142 #[.string x, .string ⟨#[10]⟩] W.drew fun e w' => e = .returned (.string sv) ∧ w' = W.drew from by
      rw [hsv]; exact Tryz.strings_TrimSuffix x ⟨#[10]⟩ W.drew (by omega))
    have HV := Lib.hid hsv
    have hrow2 : ((W.alloc (.cells #[.string sv] 9)).drew).ownsRow (w.heap.size + 2) 9 1 v L.length (L.map encStr) := hrow.alloc _
    have hcell2 : ∀ (j : Nat) u, [Value.string sv][j]? = some u → ((W.alloc (.cells #[.string sv] 9)).drew).cell? ((⟨W.heap.size, 0, none⟩ : Addr).add j) = some u := cell_one_new _ _ _
    have hc2 : ((W.alloc (.cells #[.string sv] 9)).drew).cell? ⟨w.heap.size, 0, none⟩ = some v := (hv.alloc _).cell
    have hc3 : (W.alloc (.cells #[.string sv] 9)).cell? ⟨w.heap.size, 0, none⟩ = some v := (hv.alloc _).cell
    have hsize := hB.size
    rw [hsz] at hsize
    clear hsv bO bS hB0 hsz
    refine wpIn_region_orders (by kernel_rfl) [[0, 1, 2, 3, 4, 5], [1, 0, 2, 3, 4, 5], [1, 2, 0, 3, 4, 5], [1, 2, 3, 0, 4, 5]] (by kernel_rfl) ?_
    intro o ho
    simp only [List.mem_cons, List.not_mem_nil, or_false] at ho
    rcases ho with rfl | rfl | rfl | rfl
    · simp only [List.filterMap_cons, List.filterMap_nil, List.getElem?_toArray, List.getElem?_cons_zero, List.getElem?_cons_succ]
      gi_wp2_with fail
      refine ⟨trivial, (CallsIn.inRound l (callsIn_wide.2 htrim.out)).mono ?_⟩
      rintro e w' ⟨rfl, rfl⟩
      iterate 4 (first | go_values | gi_step | go_simp)
      refine wpListIn_append_own _ rfl _ _ 24 rfl (w.heap.size + 2) 9 i0 (.string ⟨#[]⟩) 1 16 Tryz.underlying24 hi hz0 hz1 hz2 rfl (by decide) v L.length (L.map encStr) rfl hrow2 ⟨W.heap.size, 0, none⟩ 1 1 [.string sv] rfl rfl hcell2 (by simp [Value.oneCell']) (by unfold maxLen; omega) (by omega) (by simp; omega) ?_
      intro v' w1 hown' hgrow _
      obtain ⟨g', cap', rfl⟩ := ownsRow_succ hown'
      have hgrow2 : (W.alloc (.cells #[.string sv] 9)).grownBy w1 v.ownBlock := ⟨hgrow.1, hgrow.2, hgrow.3, hgrow.4, hgrow.5⟩
      obtain ⟨hv1, hv2, _, hk2, hb2⟩ := hv.appended (by decide) (own_base hrow (Nat.le_add_right _ 2)) (by omega) (Nat.le_refl _) (own_base hown' (Nat.le_add_right _ 2)) hgrow2
      have hr2 := hown'.kept (grownBy_setCell' w1 w.heap.size (.slice (some ⟨g', 0, none⟩) (L.length + 1) cap')) (.inr (hv1.not_row (by decide) hown').symm)
      have hc1 := hv1.cell
      have hf1 := hv1.frozen
      have hne : some (w.heap.size + 1) ≠ v.ownBlock := fun e => by have := (hrow.lt _ e.symm).1; omega
      have hBk := Lib.hid (hB.trans hb2)
      rw [HV.out] at hr2
      have hr3 := own_app hr2 hLx.out
      have hkp : Hid (∀ u, Boxed W (w.heap.size + 1) 9 u → Boxed (w1.setCell ⟨w.heap.size, 0, none⟩ (.slice (some ⟨g', 0, none⟩) (L.length + 1) cap')) (w.heap.size + 1) 9 u) := Lib.hid fun u hu => ((hu.alloc _).kept hgrow2 hne).other (by omega) _
      clear hc2 hc3 hrow hrow2 hcell2 hown' hgrow hgrow2 hr2 hne hb2
      gi_wp2_with fail
      exact ⟨hk2, hkp.out, ⟨_, hv2, hr3, trivial⟩, hBk.out⟩
    · simp only [List.filterMap_cons, List.filterMap_nil, List.getElem?_toArray, List.getElem?_cons_zero, List.getElem?_cons_succ]
      gi_wp2_with fail
      refine ⟨trivial, (CallsIn.inRound l (callsIn_wide.2 htrim.out)).mono ?_⟩
      rintro e w' ⟨rfl, rfl⟩
      iterate 4 (first | go_values | gi_step | go_simp)
      refine wpListIn_append_own _ rfl _ _ 24 rfl (w.heap.size + 2) 9 i0 (.string ⟨#[]⟩) 1 16 Tryz.underlying24 hi hz0 hz1 hz2 rfl (by decide) v L.length (L.map encStr) rfl hrow2 ⟨W.heap.size, 0, none⟩ 1 1 [.string sv] rfl rfl hcell2 (by simp [Value.oneCell']) (by unfold maxLen; omega) (by omega) (by simp; omega) ?_
      intro v' w1 hown' hgrow _
      obtain ⟨g', cap', rfl⟩ := ownsRow_succ hown'
      have hgrow2 : (W.alloc (.cells #[.string sv] 9)).grownBy w1 v.ownBlock := ⟨hgrow.1, hgrow.2, hgrow.3, hgrow.4, hgrow.5⟩
      obtain ⟨hv1, hv2, _, hk2, hb2⟩ := hv.appended (by decide) (own_base hrow (Nat.le_add_right _ 2)) (by omega) (Nat.le_refl _) (own_base hown' (Nat.le_add_right _ 2)) hgrow2
      have hr2 := hown'.kept (grownBy_setCell' w1 w.heap.size (.slice (some ⟨g', 0, none⟩) (L.length + 1) cap')) (.inr (hv1.not_row (by decide) hown').symm)
      have hc1 := hv1.cell
      have hf1 := hv1.frozen
      have hne : some (w.heap.size + 1) ≠ v.ownBlock := fun e => by have := (hrow.lt _ e.symm).1; omega
      have hBk := Lib.hid (hB.trans hb2)
      rw [HV.out] at hr2
      have hr3 := own_app hr2 hLx.out
      have hkp : Hid (∀ u, Boxed W (w.heap.size + 1) 9 u → Boxed (w1.setCell ⟨w.heap.size, 0, none⟩ (.slice (some ⟨g', 0, none⟩) (L.length + 1) cap')) (w.heap.size + 1) 9 u) := Lib.hid fun u hu => ((hu.alloc _).kept hgrow2 hne).other (by omega) _
      clear hc2 hc3 hrow hrow2 hcell2 hown' hgrow hgrow2 hr2 hne hb2
      gi_wp2_with fail
      exact ⟨hk2, hkp.out, ⟨_, hv2, hr3, trivial⟩, hBk.out⟩
    · simp only [List.filterMap_cons, List.filterMap_nil, List.getElem?_toArray, List.getElem?_cons_zero, List.getElem?_cons_succ]
      gi_wp2_with fail
      refine ⟨trivial, (CallsIn.inRound l (callsIn_wide.2 htrim.out)).mono ?_⟩
      rintro e w' ⟨rfl, rfl⟩
      iterate 6 (first | go_values | gi_step | go_simp)
      refine wpListIn_append_own _ rfl _ _ 24 rfl (w.heap.size + 2) 9 i0 (.string ⟨#[]⟩) 1 16 Tryz.underlying24 hi hz0 hz1 hz2 rfl (by decide) v L.length (L.map encStr) rfl hrow2 ⟨W.heap.size, 0, none⟩ 1 1 [.string sv] rfl rfl hcell2 (by simp [Value.oneCell']) (by unfold maxLen; omega) (by omega) (by simp; omega) ?_
      intro v' w1 hown' hgrow _
      obtain ⟨g', cap', rfl⟩ := ownsRow_succ hown'
      have hgrow2 : (W.alloc (.cells #[.string sv] 9)).grownBy w1 v.ownBlock := ⟨hgrow.1, hgrow.2, hgrow.3, hgrow.4, hgrow.5⟩
      obtain ⟨hv1, hv2, _, hk2, hb2⟩ := hv.appended (by decide) (own_base hrow (Nat.le_add_right _ 2)) (by omega) (Nat.le_refl _) (own_base hown' (Nat.le_add_right _ 2)) hgrow2
      have hr2 := hown'.kept (grownBy_setCell' w1 w.heap.size (.slice (some ⟨g', 0, none⟩) (L.length + 1) cap')) (.inr (hv1.not_row (by decide) hown').symm)
      have hc1 := hv1.cell
      have hf1 := hv1.frozen
      have hne : some (w.heap.size + 1) ≠ v.ownBlock := fun e => by have := (hrow.lt _ e.symm).1; omega
      have hBk := Lib.hid (hB.trans hb2)
      rw [HV.out] at hr2
      have hr3 := own_app hr2 hLx.out
      have hkp : Hid (∀ u, Boxed W (w.heap.size + 1) 9 u → Boxed (w1.setCell ⟨w.heap.size, 0, none⟩ (.slice (some ⟨g', 0, none⟩) (L.length + 1) cap')) (w.heap.size + 1) 9 u) := Lib.hid fun u hu => ((hu.alloc _).kept hgrow2 hne).other (by omega) _
      clear hc2 hc3 hrow hrow2 hcell2 hown' hgrow hgrow2 hr2 hne hb2
      gi_wp2_with fail
      exact ⟨hk2, hkp.out, ⟨_, hv2, hr3, trivial⟩, hBk.out⟩
    · simp only [List.filterMap_cons, List.filterMap_nil, List.getElem?_toArray, List.getElem?_cons_zero, List.getElem?_cons_succ]
      gi_wp2_with fail
      refine ⟨trivial, (CallsIn.inRound l (callsIn_wide.2 htrim.out)).mono ?_⟩
      rintro e w' ⟨rfl, rfl⟩
      iterate 6 (first | go_values | gi_step | go_simp)
      refine wpListIn_append_own _ rfl _ _ 24 rfl (w.heap.size + 2) 9 i0 (.string ⟨#[]⟩) 1 16 Tryz.underlying24 hi hz0 hz1 hz2 rfl (by decide) v L.length (L.map encStr) rfl hrow2 ⟨W.heap.size, 0, none⟩ 1 1 [.string sv] rfl rfl hcell2 (by simp [Value.oneCell']) (by unfold maxLen; omega) (by omega) (by simp; omega) ?_
      intro v' w1 hown' hgrow _
      obtain ⟨g', cap', rfl⟩ := ownsRow_succ hown'
      have hgrow2 : (W.alloc (.cells #[.string sv] 9)).grownBy w1 v.ownBlock := ⟨hgrow.1, hgrow.2, hgrow.3, hgrow.4, hgrow.5⟩
      obtain ⟨hv1, hv2, _, hk2, hb2⟩ := hv.appended (by decide) (own_base hrow (Nat.le_add_right _ 2)) (by omega) (Nat.le_refl _) (own_base hown' (Nat.le_add_right _ 2)) hgrow2
      have hr2 := hown'.kept (grownBy_setCell' w1 w.heap.size (.slice (some ⟨g', 0, none⟩) (L.length + 1) cap')) (.inr (hv1.not_row (by decide) hown').symm)
      have hc1 := hv1.cell
      have hf1 := hv1.frozen
      have hne : some (w.heap.size + 1) ≠ v.ownBlock := fun e => by have := (hrow.lt _ e.symm).1; omega
      have hBk := Lib.hid (hB.trans hb2)
      rw [HV.out] at hr2
      have hr3 := own_app hr2 hLx.out
      have hkp : Hid (∀ u, Boxed W (w.heap.size + 1) 9 u → Boxed (w1.setCell ⟨w.heap.size, 0, none⟩ (.slice (some ⟨g', 0, none⟩) (L.length + 1) cap')) (w.heap.size + 1) 9 u) := Lib.hid fun u hu => ((hu.alloc _).kept hgrow2 hne).other (by omega) _
      clear hc2 hc3 hrow hrow2 hcell2 hown' hgrow hgrow2 hr2 hne hb2
      gi_wp2_with fail
      exact ⟨hk2, hkp.out, ⟨_, hv2, hr3, trivial⟩, hBk.out⟩
  case seq =>
    intro l J W hW hJI hJk hY h0
    exact linesIter s hs 2 l (w.heap.size + 1) _ J hJI hJk (fun _ _ v h => inv_set v h) (fun _ _ h => inv_drew h) hY W ((hW.block (w.heap.size + 1) (by rw [hsz]; omega)).trans bS) h0
  case done =>
    rintro D xs W hD hS ⟨⟨v, hv, hrow, _⟩, hB⟩ hK
    have hc := hv.cell
    rw [show xs.map strip = linesOf s from hS] at hrow
    gi_wp2
    refine ⟨by simp, .inl ⟨_, _, rfl, run_takeDeferred hK, ?_⟩⟩
    rw [hsz] at hD
    exact ⟨_, results_tmp rfl _ _ _, v, rfl, own_base (ownsRow_putObj hrow _ hK rfl) (Nat.le_add_right _ 2), hB0.trans (hB.trans (belowK_b (w := w) (Nat.le_refl _) W D _ _ (by omega) hK rfl rfl))⟩
end Go.Proofs.YtkmonmpfbchffaaGreat.LinesScan
/- A text that asks nothing as a policy: policy.Parse, by contract. -/
namespace Go.Proofs.YtkmonmpfbchffaaGreat.PolU
set_option linter.unusedVariables false
set_option linter.unusedSimpArgs false
open Go.RowKit Go.Sort Go.Lib Go.Proofs Go.Proofs.YtkmonmpfbchffaaGreat.Plain Go.Proofs.YtkmonmpfbchffaaGreat.SynP Go.Proofs.YtkmonmpfbchffaaGreat.TabP Go.Proofs.YtkmonmpfbchffaaGreat.Tab1 Go.Proofs.YtkmonmpfbchffaaGreat.Tab5 Go.Proofs.YtkmonmpfbchffaaGreat.Grown Go.Proofs.YtkmonmpfbchffaaGreat.Lines1 Go.Proofs.YtkmonmpfbchffaaGreat.LinesScan Go.Proofs.YtkmonmpfbchffaaGreat.Scan3 Go.Proofs.YtkmonmpfbchffaaGreat.SynA Go.Proofs.YtkmonmpfbchffaaGreat.SynC Go.Proofs.YtkmonmpfbchffaaGreat.SynR Go.Proofs.YtkmonmpfbchffaaGreat.SynS Go.Proofs.YtkmonmpfbchffaaGreat.SynV Go.Proofs.YtkmonmpfbchffaaGreat.SynX Go.Proofs.YtkmonmpfbchffaaGreat.SynY Go.Proofs.YtkmonmpfbchffaaGreat.SynJ Go.Proofs.YtkmonmpfbchffaaGreat.QryP Go.Proofs.YtkmonmpfbchffaaGreat.QryX Go.Proofs.YtkmonmpfbchffaaGreat.PolA Go.Proofs.YtkmonmpfbchffaaGreat.PolD Go.Proofs.YtkmonmpfbchffaaGreat.PolE Go.Proofs.YtkmonmpfbchffaaGreat.PolG Go.Proofs.YtkmonmpfbchffaaGreat.PolI Go.Proofs.YtkmonmpfbchffaaGreat.PolM Go.Proofs.YtkmonmpfbchffaaGreat.PolP Go.Proofs.YtkmonmpfbchffaaGreat.PolQ Go.Proofs.YtkmonmpfbchffaaGreat.PolR Go.Proofs.YtkmonmpfbchffaaGreat.PolT
set_option linter.unusedVariables false
set_option linter.unusedSimpArgs false
def FineL (d : Dr) (a : TkAns) : Prop := isL (okToks a) = false ∧ d.s.length ≤ 9000 ∧ d.g.length ≤ 9000 ∧ d.h.length ≤ 9000 ∧ ((addR d (okToks a)).2.2 = 0 → (addR d (okToks a)).1.py.fit)
theorem add (B D : Nat) (d : Dr) (s : ByteArray) (w : World) (hs : s.size ≤ 1000000) (hd : DrAt w B D d) (hf : FineL d (ansOf s)) : Calls Tryz.prog 94 #[.pointer (some ⟨D, 0, none⟩), .string s] w (AddPost (addM d (ansOf s)) B D w) := by
  obtain ⟨f1, f2, f3, f4, f5⟩ := hf
  cases e : ansOf s with
  | bad c er => exact add_bad B D d s w hs hd c er e
  | ok L =>
    rw [e] at f1 f5
    by_cases h0 : 0 < L.length
    · by_cases hg : leads L growT = true
      · exact add_grow B D d s w L hs hd f2 f3 f4 e h0 f1 hg f5
      · have hg' : leads L growT = false := by simpa using hg
        by_cases hh : leads L shrinkT = true
        · exact add_shrink B D d s w L hs hd f2 f3 f4 e h0 f1 hg' hh f5
        · exact add_state B D d s w L hs hd f2 f3 f4 e h0 f1 hg' (by simpa using hh) f5
    · obtain rfl : L = [] := List.eq_nil_of_length_eq_zero (by omega)
      exact add_none B D d s w hs hd e
def ln (l : Str) : ByteArray := ⟨l.toArray⟩
/-- All lines, one behind another: what they come to, and the first fault. -/
def runM : List Str → Nat → Dr → Dr × Int × Int × Int
  | [], _, d => (d, 0, 0, 0)
  | l :: ls, i, d => if (addM d (ansOf (ln l))).2.2 = 0 then runM ls (i + 1) (addM d (ansOf (ln l))).1 else ((addM d (ansOf (ln l))).1, (addM d (ansOf (ln l))).2.2, ((i + 1 : Nat) : Int), (addM d (ansOf (ln l))).2.1)
def Fine : List Str → Dr → Prop
  | [], d => d.s.length ≤ 1000 ∧ d.g.length ≤ 1000 ∧ d.h.length ≤ 1000
  | l :: ls, d => l.length ≤ 1000000 ∧ FineL d (ansOf (ln l)) ∧ ((addM d (ansOf (ln l))).2.2 = 0 → Fine ls (addM d (ansOf (ln l))).1)
theorem runM_go {T : List Str} {k : Nat} (h : k < T.length) (d : Dr) (h0 : (addM d (ansOf (ln T[k]))).2.2 = 0) : runM (T.drop k) k d = runM (T.drop (k + 1)) (k + 1) (addM d (ansOf (ln T[k]))).1 := by
  rw [List.drop_eq_getElem_cons h]
  show (if _ then _ else _) = _
  rw [if_pos h0]
theorem runM_no {T : List Str} {k : Nat} (h : k < T.length) (d : Dr) (h0 : ¬ (addM d (ansOf (ln T[k]))).2.2 = 0) : runM (T.drop k) k d = ((addM d (ansOf (ln T[k]))).1, (addM d (ansOf (ln T[k]))).2.2, ((k + 1 : Nat) : Int), (addM d (ansOf (ln T[k]))).2.1) := by
  rw [List.drop_eq_getElem_cons h]
  show (if _ then _ else _) = _
  rw [if_neg h0]
theorem fine_at {T : List Str} {k : Nat} (h : k < T.length) {d : Dr} (hf : Fine (T.drop k) d) : T[k].length ≤ 1000000 ∧ FineL d (ansOf (ln T[k])) ∧ ((addM d (ansOf (ln T[k]))).2.2 = 0 → Fine (T.drop (k + 1)) (addM d (ansOf (ln T[k]))).1) := by
  rw [List.drop_eq_getElem_cons h] at hf
  exact hf
def d0 : Dr := ⟨[], [], []⟩
theorem own_beside {w w' : World} {B D C : Nat} {e : TypeId} {size n : Nat} {v : Value} {xs : List Value} (h : w.ownsRow C e size v n xs) (hb : Beside B D w w') (hD : D < C) (hB : w.heap.size ≤ B) : w'.ownsRow C e size v n xs := by
  refine ⟨h.1, ?_⟩
  rcases h.2 with h0 | ⟨g, cap, cur, rfl, hg, hh, hc⟩
  · exact .inl h0
  · have hlt : g < w.heap.size := (Array.getElem?_eq_some_iff.1 hh).1
    exact .inr ⟨g, cap, cur, rfl, hg, (hb.block g (by omega) (by omega)).trans hh, hc⟩
theorem blk_far {X : World} {n m i : Nat} {o : Option Obj} (h : X.heap[n]? = o) (hne : m ≠ n) (v : Value) : (X.setCell ⟨m, i, none⟩ v).heap[n]? = o := by
  rw [← h]
  unfold World.setCell
  simp only [Array.getElem?_modify]
  rw [if_neg hne]
section
variable {X : World} {n : Nat} {a0 a1 a2 a3 b0 b1 b2 : Value}
theorem seven_blk {x0 x1 x2 x3 y0 y1 y2 : Value} (q0 : X.heap[n]? = some (.cells #[x0, x1, x2, x3] 42 (0, 0))) (q1 : X.heap[n + 1]? = some (.cells #[y0, y1, y2] 54 (0, 0))) : (((((((X.setCell ⟨n, 0, none⟩ a0).setCell ⟨n, 1, none⟩ a1).setCell ⟨n, 2, none⟩ a2).setCell ⟨n, 3, none⟩ a3).setCell ⟨n + 1, 0, none⟩ b0).setCell ⟨n + 1, 1, none⟩ b1).setCell ⟨n + 1, 2, none⟩ b2).heap[n]? = some (.cells #[a0, a1, a2, a3] 42 (0, 0)) ∧ (((((((X.setCell ⟨n, 0, none⟩ a0).setCell ⟨n, 1, none⟩ a1).setCell ⟨n, 2, none⟩ a2).setCell ⟨n, 3, none⟩ a3).setCell ⟨n + 1, 0, none⟩ b0).setCell ⟨n + 1, 1, none⟩ b1).setCell ⟨n + 1, 2, none⟩ b2).heap[n + 1]? = some (.cells #[b0, b1, b2] 54 (0, 0)) := by
  have p : ((((X.setCell ⟨n, 0, none⟩ a0).setCell ⟨n, 1, none⟩ a1).setCell ⟨n, 2, none⟩ a2).setCell ⟨n, 3, none⟩ a3).heap[n]? = some (.cells #[a0, a1, a2, a3] 42 (0, 0)) := blk_set (blk_set (blk_set (blk_set q0 0 a0) 1 a1) 2 a2) 3 a3
  have f : ((((X.setCell ⟨n, 0, none⟩ a0).setCell ⟨n, 1, none⟩ a1).setCell ⟨n, 2, none⟩ a2).setCell ⟨n, 3, none⟩ a3).heap[n + 1]? = some (.cells #[y0, y1, y2] 54 (0, 0)) := blk_far (blk_far (blk_far (blk_far q1 (by omega) _) (by omega) _) (by omega) _) (by omega) _
  exact ⟨blk_far (blk_far (blk_far p (by omega) _) (by omega) _) (by omega) _, blk_set (blk_set (blk_set f 0 b0) 1 b1) 2 b2⟩
theorem seven_below {w : World} {B : Nat} (h : Below B w X) (hB : B ≤ n) : Below B w (((((((X.setCell ⟨n, 0, none⟩ a0).setCell ⟨n, 1, none⟩ a1).setCell ⟨n, 2, none⟩ a2).setCell ⟨n, 3, none⟩ a3).setCell ⟨n + 1, 0, none⟩ b0).setCell ⟨n + 1, 1, none⟩ b1).setCell ⟨n + 1, 2, none⟩ b2) :=
  ((((((h.setCell (p := ⟨n, 0, none⟩) hB _).setCell (p := ⟨n, 1, none⟩) hB _).setCell (p := ⟨n, 2, none⟩) hB _).setCell (p := ⟨n, 3, none⟩) hB _).setCell (p := ⟨n + 1, 0, none⟩) (by show B ≤ n + 1; omega) _).setCell (p := ⟨n + 1, 1, none⟩) (by show B ≤ n + 1; omega) _).setCell (p := ⟨n + 1, 2, none⟩) (by show B ≤ n + 1; omega) _
theorem seven_far {g : Nat} (h0 : n ≠ g) (h1 : n + 1 ≠ g) (i : Nat) : (((((((X.setCell ⟨n, 0, none⟩ a0).setCell ⟨n, 1, none⟩ a1).setCell ⟨n, 2, none⟩ a2).setCell ⟨n, 3, none⟩ a3).setCell ⟨n + 1, 0, none⟩ b0).setCell ⟨n + 1, 1, none⟩ b1).setCell ⟨n + 1, 2, none⟩ b2).cell? ⟨g, i, none⟩ = X.cell? ⟨g, i, none⟩ := by
  rw [set_far _ _ _ _ _ _ h1, set_far _ _ _ _ _ _ h1, set_far _ _ _ _ _ _ h1, set_far _ _ _ _ _ _ h0, set_far _ _ _ _ _ _ h0, set_far _ _ _ _ _ _ h0, set_far _ _ _ _ _ _ h0]
theorem seven_size : (((((((X.setCell ⟨n, 0, none⟩ a0).setCell ⟨n, 1, none⟩ a1).setCell ⟨n, 2, none⟩ a2).setCell ⟨n, 3, none⟩ a3).setCell ⟨n + 1, 0, none⟩ b0).setCell ⟨n + 1, 1, none⟩ b1).setCell ⟨n + 1, 2, none⟩ b2).heap.size = X.heap.size := by simp only [set_size]
theorem seven_rg {A : Option Addr} {L : List Rl} (h : RG X A L) {C C' : Array Value} {t t' : TypeId} (q0 : X.heap[n]? = some (.cells C t (0, 0))) (q1 : X.heap[n + 1]? = some (.cells C' t' (0, 0))) (hC : ∀ (j : Nat) (s : ByteArray), C[j]? ≠ some (Value.string s)) (hC' : ∀ (j : Nat) (s : ByteArray), C'[j]? ≠ some (Value.string s)) : RG (((((((X.setCell ⟨n, 0, none⟩ a0).setCell ⟨n, 1, none⟩ a1).setCell ⟨n, 2, none⟩ a2).setCell ⟨n, 3, none⟩ a3).setCell ⟨n + 1, 0, none⟩ b0).setCell ⟨n + 1, 1, none⟩ b1).setCell ⟨n + 1, 2, none⟩ b2) A L := fun hp => by
  obtain ⟨g, o, e, hg, hc⟩ := h hp
  have h0 := (hc 0 hp).1
  have n0 : n ≠ g := fun e => by subst e; rw [Lib.cell_of_heap q0] at h0; exact hC _ _ h0
  have n1 : n + 1 ≠ g := fun e => by subst e; rw [Lib.cell_of_heap q1] at h0; exact hC' _ _ h0
  exact ⟨g, o, e, by rw [seven_size]; exact hg, fun j hj => by rw [seven_far n0 n1, seven_far n0 n1]; exact hc j hj⟩
theorem seven_sg {A : Option Addr} {L : List St} (h : SG X A L) {C C' : Array Value} {t t' : TypeId} (q0 : X.heap[n]? = some (.cells C t (0, 0))) (q1 : X.heap[n + 1]? = some (.cells C' t' (0, 0))) (hC : ∀ (j : Nat) (s : ByteArray), C[j]? ≠ some (Value.string s)) (hC' : ∀ (j : Nat) (s : ByteArray), C'[j]? ≠ some (Value.string s)) : SG (((((((X.setCell ⟨n, 0, none⟩ a0).setCell ⟨n, 1, none⟩ a1).setCell ⟨n, 2, none⟩ a2).setCell ⟨n, 3, none⟩ a3).setCell ⟨n + 1, 0, none⟩ b0).setCell ⟨n + 1, 1, none⟩ b1).setCell ⟨n + 1, 2, none⟩ b2) A L := fun hp => by
  obtain ⟨g, o, e, hg, hc⟩ := h hp
  have h0 := (hc 0 hp).2.1
  have n0 : n ≠ g := fun e => by subst e; rw [Lib.cell_of_heap q0] at h0; exact hC _ _ h0
  have n1 : n + 1 ≠ g := fun e => by subst e; rw [Lib.cell_of_heap q1] at h0; exact hC' _ _ h0
  exact ⟨g, o, e, by rw [seven_size]; exact hg, fun j hj => by
    rw [seven_far n0 n1, seven_far n0 n1, seven_far n0 n1, seven_far n0 n1, seven_far n0 n1, seven_far n0 n1, seven_far n0 n1, seven_far n0 n1, seven_far n0 n1]; exact hc j hj⟩
end
theorem no4 {a b c d : Value} (ha : ∀ s, a ≠ .string s) (hb : ∀ s, b ≠ .string s) (hc : ∀ s, c ≠ .string s) (hd : ∀ s, d ≠ .string s) : ∀ (j : Nat) (s : ByteArray), (#[a, b, c, d] : Array Value)[j]? ≠ some (.string s)
  | 0, s, h => by injection h with h; exact ha _ h
  | 1, s, h => by injection h with h; exact hb _ h
  | 2, s, h => by injection h with h; exact hc _ h
  | 3, s, h => by injection h with h; exact hd _ h
  | k + 4, s, h => by simp at h
theorem no3 {a b c : Value} (ha : ∀ s, a ≠ .string s) (hb : ∀ s, b ≠ .string s) (hc : ∀ s, c ≠ .string s) : ∀ (j : Nat) (s : ByteArray), (#[a, b, c] : Array Value)[j]? ≠ some (.string s)
  | 0, s, h => by injection h with h; exact ha _ h
  | 1, s, h => by injection h with h; exact hb _ h
  | 2, s, h => by injection h with h; exact hc _ h
  | k + 3, s, h => by simp at h
theorem three_alloc (w : World) (X Y Z : Obj) : (((w.alloc X).alloc Y).alloc Z).heap[w.heap.size]? = some X ∧ (((w.alloc X).alloc Y).alloc Z).heap[w.heap.size + 1]? = some Y ∧ (((w.alloc X).alloc Y).alloc Z).heap[w.heap.size + 2]? = some Z := by
  have a := heap_alloc_new w X
  have b := heap_alloc_new (w.alloc X) Y
  have c := heap_alloc_new ((w.alloc X).alloc Y) Z
  simp only [World.size_alloc] at b c
  refine ⟨?_, ?_, c⟩
  · exact ((Below.refl (w.heap.size + 1) ((w.alloc X))).alloc (by simp) Y |>.alloc (by simp) Z).block _ (by omega) |>.trans a
  · exact ((Below.refl (w.heap.size + 2) (((w.alloc X).alloc Y))).alloc (by simp) Z).block _ (by omega) |>.trans b
def zeroF : Obj := .cells #[.int .i64 0, .int .i64 0, .int .i64 0] 54
def zeroD : Obj := .cells #[.slice none 0 0, .slice none 0 0, .slice none 0 0, .slice none 0 0] 107
def PolPost (r : Dr × Int × Int × Int) (w : World) (e : Ending) (w' : World) : Prop :=
  if r.2.1 = 0 then ∃ B1 k1 B2 k2 B3 k3, e = .returned (.tuple #[.agg #[.slice B1 (sortSt (normS r.1.s r.1.s.length)).length k1, .slice B2 (sortRl r.1.g).length k2, .slice B3 (sortRl r.1.h).length k3, .slice none 0 0], .agg #[.int .i64 0, .int .i64 0, .int .i64 0]]) ∧ SG w' B1 (sortSt (normS r.1.s r.1.s.length)) ∧ RG w' B2 (sortRl r.1.g) ∧ RG w' B3 (sortRl r.1.h) ∧ Below w.heap.size w w'
  else e = .returned (.tuple #[.agg #[.slice none 0 0, .slice none 0 0, .slice none 0 0, .slice none 0 0], .agg #[.int .i64 r.2.1, .int .i64 r.2.2.1, .int .i64 r.2.2.2]]) ∧ Below w.heap.size w w'
set_option maxHeartbeats 2000000 in
set_option maxRecDepth 100000 in
theorem parse (s : ByteArray) (w : World) (hs : s.size ≤ 8000) (hf : Fine (linesOf s) d0) : Calls Tryz.prog 37 #[.string s] w (PolPost (runM (linesOf s) 0 d0) w) := by
  have HLn := Lib.hid (fun w' => linesScan s w' (by omega))
  have hll := linesOf_len s
  obtain ⟨T, hT⟩ : ∃ T, linesOf s = T := ⟨_, rfl⟩
  rw [hT] at HLn hf hll ⊢
  have Hf := Lib.hid hf
  have dz : decide ((8000 : Int) < s.size) = false := by simp; omega
  have dz' : ¬ (8000 : Int) < s.size := by omega
  obtain ⟨RR, hRR⟩ : ∃ RR, runM T 0 d0 = RR := ⟨_, rfl⟩
  rw [hRR]
  have HRR := Lib.hid hRR
  clear hT hf hRR
  go_enter Tryz.func37, Tryz.ntmps37
  go_wp2_with fail
  refine (HLn.out _).mono ?_
  rintro e w1 ⟨v, rfl, hown, hb1⟩
  obtain ⟨tP, tF, tD⟩ := three_alloc w (.cells #[.slice none 0 0, .slice none 0 0, .slice none 0 0, .slice none 0 0] 42) (.cells #[.int .i64 0, .int .i64 0, .int .i64 0] 54) (.cells #[.slice none 0 0, .slice none 0 0, .slice none 0 0, .slice none 0 0] 107)
  have zw : w.heap.size + 3 ≤ w1.heap.size := by have := hb1.size; simpa using this
  have hP := blk_below tP hb1 (by simp only [World.size_alloc]; omega)
  have hFl := blk_below tF hb1 (by simp only [World.size_alloc]; omega)
  have hDb := blk_below tD hb1 (by simp only [World.size_alloc]; omega)
  have hlw : Below w.heap.size w w1 := ((((Below.refl w.heap.size w).alloc (Nat.le_refl _) _).alloc (by simp only [World.size_alloc]; omega) _).alloc (by simp only [World.size_alloc]; omega) _).trans (hb1.mono (by simp only [World.size_alloc]; omega))
  have hown' : w1.ownsRow (w.heap.size + 3) 9 1 v T.length (T.map encStr) := SynH.own_base hown (by simp)
  have HO := Lib.hid hown'
  have HP := Lib.hid hP
  have HFl := Lib.hid hFl
  have HLw := Lib.hid hlw
  have HD0 : Hid (DrAt w1 w1.heap.size (w.heap.size + 2) d0) := Lib.hid ⟨none, 0, none, 0, none, 0, by omega, Nat.le_refl _, hDb, World.ownsRow_nil _ _ _ _, World.ownsRow_nil _ _ _ _, World.ownsRow_nil _ _ _ _, fun g h => by simp [Value.ownBlock] at h⟩
  obtain ⟨AT, cT, rfl, _, _⟩ := SRow.of_own hown'
  clear tP tF tD hown hb1 hP hFl hDb hlw hown'
  go_wp2_with fail
  go_loopw [17] (fun i wr => ∃ (k : Nat) (d : Dr), k ≤ T.length ∧ i = .int .i64 k ∧ Hid (DrAt wr w1.heap.size (w.heap.size + 2) d) ∧ Hid (Fine (T.drop k) d) ∧ Hid (runM T 0 d0 = runM (T.drop k) k d) ∧ Hid (Beside w1.heap.size (w.heap.size + 2) w1 wr)) (fun i _ => T.length - (intOf i).toNat)
  case atStart => exact ⟨0, d0, by omega, rfl, HD0, by simpa using Hf, Lib.hid (by simp), Lib.hid (Beside.refl _ _ _)⟩
  case round =>
    obtain ⟨k, d, hk, rfl, hd, hfi, hrun, hbs⟩ := hrel
    by_cases hlt : k < T.length
    · have d1 : decide ((k : Int) < T.length) = true := by simp; omega
      have p1 : (0 : Int) ≤ k := by omega
      have p2 : (k : Int) < T.length := by omega
      have hrow : SRow wr AT T := by
        obtain ⟨A2, c2, e, _, hr⟩ := SRow.of_own (own_beside HO.out hbs.out (by omega) (Nat.le_refl _))
        injection e with e1
        subst e1; exact hr
      obtain ⟨g, o, rfl, hg, hc⟩ := hrow (by omega)
      have hx := hc k hlt
      obtain ⟨hl, hfl, hnx⟩ := fine_at hlt hfi.out
      have hAd := add w1.heap.size (w.heap.size + 2) d (ln T[k]) wr (by show T[k].toArray.size ≤ 1000000; simpa using hl) hd.out hfl
      have HGo := Lib.hid (fun h => runM_go hlt d h)
      have HNo := Lib.hid (fun h => runM_no hlt d h)
      have HNx := Lib.hid hnx
      obtain ⟨r, hr⟩ : ∃ r, addM d (ansOf (ln T[k])) = r := ⟨_, rfl⟩
      rw [hr] at hAd HGo HNo HNx
      unfold ln at hAd
      generalize (⟨T[k].toArray⟩ : ByteArray) = x at *
      have HAd := Lib.hid hAd
      obtain ⟨d', at_, why⟩ := r
      unfold AddPost at HAd
      simp only at HAd HGo HNo HNx
      clear hc hrow hl hfl hnx hAd hr hfi hd
      go_wp2_with fail
      refine HAd.out.mono ?_
      rintro e w2 ⟨rfl, hdr, hb2⟩
      have HDr := Lib.hid hdr
      have HB2 := Lib.hid (hbs.out.trans hb2)
      clear hdr hb2
      by_cases hw : why = 0
      · subst hw
        have hd2 := Lib.hid (HDr.out rfl)
        have hf2 := Lib.hid (HNx.out rfl)
        have hr2 : Hid (runM T 0 d0 = runM (T.drop (k + 1)) (k + 1) d') := Lib.hid (by rw [hrun.out, HGo.out rfl])
        clear HGo HNo
        go_wp2_with fail
        go_roundw
        case rel => exact ⟨k + 1, d', by omega, by go_num, hd2, hf2, hr2, HB2⟩
        case measure => simp [intOf]; omega
      · have hres : RR = (d', why, ((k + 1 : Nat) : Int), at_) := by rw [← HRR.out, hrun.out, HNo.out hw]
        have e1 : (why != 0) = true := by simpa using hw
        have q0 := (HB2.out.block w.heap.size (by omega) (by omega)).trans HP.out
        have q1 := (HB2.out.block (w.heap.size + 1) (by omega) (by omega)).trans HFl.out
        have hcP := fun o => Lib.cell_of_heap q0 o
        have hfP := blk_frozen q0
        have hcF := fun o => Lib.cell_of_heap q1 o
        have hfF := blk_frozen q1
        have hbl := (HLw.out.trans ((HB2.out.low (by omega)).mono (by omega : w.heap.size ≤ w.heap.size + 2)))
        have HBl := Lib.hid hbl
        have HRes := Lib.hid hres
        have HQ0 := Lib.hid q0
        have HQ1 := Lib.hid q1
        clear HGo HNo hres hbl q0 q1
        go_wp2_with fail
        obtain ⟨z0, z1⟩ := seven_blk (a0 := .slice none 0 0) (a1 := .slice none 0 0) (a2 := .slice none 0 0) (a3 := .slice none 0 0) (b0 := .int .i64 why) (b1 := .int .i64 ((k : Int) + 1)) (b2 := .int .i64 at_) HQ0.out HQ1.out
        have hc0 := fun o => Lib.cell_of_heap z0 o
        have hc1 := fun o => Lib.cell_of_heap z1 o
        refine bodyPost_ret (v := .tuple #[.agg #[.slice none 0 0, .slice none 0 0, .slice none 0 0, .slice none 0 0], .agg #[.int .i64 why, .int .i64 ((k : Int) + 1), .int .i64 at_]]) (by simp [results, Tryz.results37, go_sem, hc0, hc1]) rfl ?_
        rw [HRes.out]
        unfold PolPost
        rw [if_neg (by exact hw)]
        exact ⟨by simp, seven_below HBl.out (Nat.le_refl _)⟩
    · have hkT : k = T.length := by omega
      have d1 : decide ((k : Int) < T.length) = false := by simp; omega
      have hres : RR = (d, 0, 0, 0) := by rw [← HRR.out, hrun.out, List.drop_of_length_le (by omega)]; rfl
      obtain ⟨m1, m2, m3⟩ : d.s.length ≤ 1000 ∧ d.g.length ≤ 1000 ∧ d.h.length ≤ 1000 := by
        have := hfi.out
        rw [List.drop_of_length_le (by omega)] at this
        exact this
      have q0 := (hbs.out.block w.heap.size (by omega) (by omega)).trans HP.out
      have q1 := (hbs.out.block (w.heap.size + 1) (by omega) (by omega)).trans HFl.out
      have hbl := (HLw.out.trans ((hbs.out.low (by omega)).mono (by omega : w.heap.size ≤ w.heap.size + 2)))
      obtain ⟨A1, c1, A2, c2, A3, c3, hdr⟩ := hd.out
      have HNr := Lib.hid (normal0 A1 A2 A3 none c1 c2 c3 0 d.s d.g d.h wr m1 m2 m3 (pg_of hdr).s (pg_of hdr).g (pg_of hdr).h)
      have hcD := fun o => Lib.cell_of_heap hdr.box o
      have hzw : w.heap.size + 2 < wr.heap.size := by have := hdr.hD; have := hdr.hB; omega
      have HRes := Lib.hid hres
      have HQ0 := Lib.hid q0
      have HQ1 := Lib.hid q1
      have HBl := Lib.hid hbl
      unfold NormPost at HNr
      clear hres q0 q1 hbl hdr hd hfi hrun
      generalize hNs : sortSt (normS d.s d.s.length) = NS at *
      generalize hNg : sortRl d.g = NG at *
      generalize hNh : sortRl d.h = NH at *
      have HE := Lib.hid (And.intro hNs (And.intro hNg hNh))
      clear hNs hNg hNh
      go_wp2_with fail
      refine HNr.out.mono ?_
      rintro e w2 ⟨B1, k1, B2, k2, B3, k3, rfl, h1, h2, h3, hb2⟩
      have q0 := blk_below HQ0.out hb2 (by omega)
      have q1 := blk_below HQ1.out hb2 (by omega)
      have HQ0' := Lib.hid q0
      have HQ1' := Lib.hid q1
      have hcP := fun o => Lib.cell_of_heap q0 o
      have hfP := blk_frozen q0
      have hcF := fun o => Lib.cell_of_heap q1 o
      have hfF := blk_frozen q1
      have H1 := Lib.hid h1
      have H2 := Lib.hid h2
      have H3 := Lib.hid h3
      have HB2 := Lib.hid (HBl.out.trans (hb2.mono (by omega)))
      clear q0 q1 h1 h2 h3 hb2 hcD
      go_wp2_with fail
      obtain ⟨z0, z1⟩ := seven_blk (a0 := .slice B1 NS.length k1) (a1 := .slice B2 NG.length k2) (a2 := .slice B3 NH.length k3) (a3 := .slice none 0 0) (b0 := .int .i64 0) (b1 := .int .i64 0) (b2 := .int .i64 0) HQ0'.out HQ1'.out
      have hc0 := fun o => Lib.cell_of_heap z0 o
      have hc1 := fun o => Lib.cell_of_heap z1 o
      have n4 : ∀ (j : Nat) (s : ByteArray), (#[.slice none 0 0, .slice none 0 0, .slice none 0 0, .slice none 0 0] : Array Value)[j]? ≠ some (Value.string s) := no4 (fun s h => by cases h) (fun s h => by cases h) (fun s h => by cases h) (fun s h => by cases h)
      have n3 : ∀ (j : Nat) (s : ByteArray), (#[.int .i64 0, .int .i64 0, .int .i64 0] : Array Value)[j]? ≠ some (Value.string s) := no3 (fun s h => by cases h) (fun s h => by cases h) (fun s h => by cases h)
      refine bodyPost_ret (v := .tuple #[.agg #[.slice B1 NS.length k1, .slice B2 NG.length k2, .slice B3 NH.length k3, .slice none 0 0], .agg #[.int .i64 0, .int .i64 0, .int .i64 0]]) (by simp [results, Tryz.results37, go_sem, hc0, hc1]) rfl ?_
      rw [HRes.out]
      unfold PolPost
      rw [if_pos (by rfl)]
      simp only
      rw [HE.out.1, HE.out.2.1, HE.out.2.2]
      exact ⟨B1, k1, B2, k2, B3, k3, rfl, seven_sg H1.out HQ0'.out HQ1'.out n4 n3, seven_rg H2.out HQ0'.out HQ1'.out n4 n3, seven_rg H3.out HQ0'.out HQ1'.out n4 n3, seven_below HB2.out (Nat.le_refl _)⟩
end Go.Proofs.YtkmonmpfbchffaaGreat.PolU
/- strings.Builder at this translation: a written builder's copy is refused there, so that the contracts of the library's shelf do not fit; these are walked anew. -/
namespace Go.Proofs.YtkmonmpfbchffaaGreat.Build
set_option linter.unusedVariables false
set_option linter.unusedSimpArgs false
open Go.RowKit
theorem sizeB : (Tryz.prog.info? 83).map (fun i => i.size) = some 2 := by kernel_rfl
theorem infoByte : (Tryz.prog.info? 5).map (fun i => (i.zero, i.size, i.bytes)) = some (some (.int .u8 0), 1, 1) := by kernel_rfl
theorem lies : liesAt Tryz.prog Tryz.prog.depth 83 (2 / Tryz.prog.cellsOf 83) 0 83 1 = true := by kernel_rfl
abbrev OK := Lib.OthersKept 5
abbrev IsB := Lib.IsBuilder 83 5
abbrev BAt := Lib.BuilderAt 83 5
theorem ownBlock_typed {w : World} {B : Nat} {e : TypeId} {size n : Nat} {v : Value} {xs : List Value} (h : w.ownsRow B e size v n xs) {g : Nat} (hg : v.ownBlock = some g) : ∃ c fz, w.heap[g]? = some (.cells c e fz) := by
  rcases h.2 with ⟨rfl, _⟩ | ⟨g', cap, cur, rfl, _, hh, _⟩
  · simp [Value.ownBlock] at hg
  · have : g' = g := by simpa [Value.ownBlock] using hg
    subst this
    exact ⟨_, _, hh⟩
theorem BAt.alloc {B b : Nat} {p : Value} {bs : List Value} {w : World} (h : BAt B b p bs w) (o : Obj) : BAt B b p bs (w.alloc o) := by
  have hlt := Lib.BuilderAt.lt h
  obtain ⟨hB, v, hbk, hown, hne⟩ := h
  exact ⟨hB, v, by rw [Lib.alloc_old w o b hlt]; exact hbk, hown.alloc o, hne⟩
theorem IsB.alloc {B b : Nat} {bs : List Value} {w : World} (h : IsB B b bs w) (o : Obj) : IsB B b bs (w.alloc o) := by
  rcases h with h | h
  · exact .inl (BAt.alloc h o)
  · exact .inr (BAt.alloc h o)
theorem IsB.lt {B b : Nat} {bs : List Value} {w : World} (h : IsB B b bs w) : b < w.heap.size := by
  rcases h with h | h <;> exact Lib.BuilderAt.lt h
/-- A variable's block above the builder, kept by its writers. -/
theorem OK.cells {b k : Nat} {w w' : World} {cs : Array Value} {t : TypeId} {fz : Nat × Nat} (h : OK (some b) w w') (hk : w.heap[k]? = some (.cells cs t fz)) (hb : k ≠ b) (ht : t ≠ 5) : w'.heap[k]? = some (.cells cs t fz) :=
  h k _ hk (fun e => hb (by injection e)) (fun c f e => ht (by injection e))
set_option maxRecDepth 100000 in
theorem copyCheck_used (b : Nat) (w : World) (h0 : w.cell? ⟨b, 0, none⟩ = some (.pointer (some ⟨b, 0, none⟩))) :
    Calls Tryz.prog 124 #[.pointer (some ⟨b, 0, none⟩)] w fun e w' => e = .returned (.tuple #[]) ∧ w = w' := by
  obtain ⟨j, hj, _⟩ := Option.map_eq_some_iff.1 sizeB
  go_enter Tryz.func124, Tryz.ntmps124
  go_wp2
  rw [Lib.run_neq_ptr_same w _ Tryz.underlying81 hj]
  go_wp2
  go_end0
  exact ⟨rfl, rfl⟩
set_option maxRecDepth 100000 in
theorem copyCheck_fresh (b : Nat) (w : World) (h0 : w.cell? ⟨b, 0, none⟩ = some (.pointer none)) (hsh : w.shape? b = some (83, 2)) (hfz : w.frozen? ⟨b, 0, none⟩ = false) :
    Calls Tryz.prog 124 #[.pointer (some ⟨b, 0, none⟩)] w fun e w' => e = .returned (.tuple #[]) ∧ w' = w.setCell ⟨b, 0, none⟩ (.pointer (some ⟨b, 0, none⟩)) := by
  obtain ⟨j, hj, hjs⟩ := Option.map_eq_some_iff.1 sizeB
  go_enter Tryz.func124, Tryz.ntmps124
  go_wp2
  rw [Lib.run_to_unsafe w ⟨b, 0, none⟩ Tryz.underlying81 Tryz.underlying173 hj (by rw [hjs]; decide) hsh (Nat.zero_lt_succ 1)]
  simp only [Result.andThen]
  rw [Oper.upon_value]
  go_wp2
  rw [run_callFunc_extern Tryz.func172 (by kernel_rfl) (by kernel_rfl) (by kernel_rfl) (e := Extern.AbiNoEscape.same) (by kernel_rfl)]
  rw [Lib.run_noEscape]
  simp only [Result.andThen]
  rw [Oper.upon_value]
  go_wp2
  rw [Lib.run_from_unsafe w ⟨b, 0, none⟩ Tryz.underlying173 Tryz.underlying81 hj hsh lies]
  simp only [Result.andThen]
  rw [Oper.upon_value]
  go_wp2
  go_end0
  exact ⟨rfl, rfl⟩
theorem copyCheck (B b : Nat) (bs : List Value) (w : World) (h : IsB B b bs w) :
    Calls Tryz.prog 124 #[.pointer (some ⟨b, 0, none⟩)] w fun e w' => e = .returned (.tuple #[]) ∧ BAt B b (.pointer (some ⟨b, 0, none⟩)) bs w' ∧ Below B w w' ∧ OK (some b) w w' := by
  rcases h with h | h
  · refine (copyCheck_fresh b w h.cell0 h.shape h.frozen0).mono ?_
    rintro e w' ⟨rfl, rfl⟩
    exact ⟨rfl, h.used _, (Below.refl B w).setCell (p := ⟨b, 0, none⟩) h.1 _, (Lib.OthersKept.refl _ _ w).setCell ⟨b, 0, none⟩ rfl _⟩
  · refine (copyCheck_used b w h.cell0).mono ?_
    rintro e w' ⟨rfl, rfl⟩
    exact ⟨rfl, h, Below.refl B _, Lib.OthersKept.refl _ _ _⟩
set_option maxRecDepth 100000 in
theorem writeString (B b : Nat) (bs : List Value) (s : ByteArray) (w : World) (h : IsB B b bs w) (hlen : bs.length + s.size ≤ 140737488355328) (hBw : B ≤ w.heap.size) :
    Calls Tryz.prog 65 #[.pointer (some ⟨b, 0, none⟩), .string s] w fun e w' => e = .returned (.tuple #[.int .i64 s.size, .nilIface]) ∧ BAt B b (.pointer (some ⟨b, 0, none⟩)) (bs ++ Lib.strCells s) w' ∧ Below B w w' ∧ OK (some b) w w' := by
  obtain ⟨i0, hi, hz0, hz1, hz2⟩ := info_parts infoByte
  go_enter Tryz.func65, Tryz.ntmps65
  go_wp2_with (go_at_call 124; refine (copyCheck B b bs _ h).mono ?_)
  rintro e w1 ⟨rfl, ⟨hB, v, hbk, hown, hne⟩, hb1, hk1⟩
  have c0 : w1.cell? ⟨b, 0, none⟩ = some (.pointer (some ⟨b, 0, none⟩)) := by rw [Lib.cell_of_heap hbk]; rfl
  have c1 : w1.cell? ⟨b, 1, none⟩ = some v := by rw [Lib.cell_of_heap hbk]; rfl
  go_wp2_with (at_builtin; refine Lib.wpList_append_own_string _ rfl _ _ 58 9 rfl B 5 i0 Tryz.underlying58 Tryz.underlying9 hi hz0 hz1 hz2 _ _ _ rfl hown s rfl ?c3 ?c4 ?c5 ?_)
  case c3 => unfold maxLen; omega
  case c4 => omega
  case c5 => have := hb1.size; omega
  intro v' w2 hown' hgrow _
  have hlt : b < w1.heap.size := Lib.BuilderAt.lt ⟨hB, v, hbk, hown, hne⟩
  have hb2 : w2.heap[b]? = some (.cells #[.pointer (some ⟨b, 0, none⟩), v] 83 (0, 0)) := by
    rw [hgrow.block b hlt (fun e => hne e.symm)]
    exact hbk
  have d0 : w2.cell? ⟨b, 0, none⟩ = some (.pointer (some ⟨b, 0, none⟩)) := by rw [Lib.cell_of_heap hb2]; rfl
  have d1 : w2.cell? ⟨b, 1, none⟩ = some v := by rw [Lib.cell_of_heap hb2]; rfl
  have f1 : w2.frozen? ⟨b, 1, none⟩ = false := Lib.frozen_of_heap hb2 1
  obtain ⟨ao, n', cap, rfl⟩ : ∃ ao n' cap, v' = .slice ao n' cap := by
    rcases hown'.2 with ⟨hv, _⟩ | ⟨g, cap, cur, hv, _⟩
    · exact ⟨_, _, _, hv⟩
    · exact ⟨_, _, _, hv⟩
  go_wp2
  go_ret2
  refine ⟨rfl, ?_, ?_, ?_⟩
  · exact Lib.BuilderAt.put hB hb2 (bs' := bs ++ Lib.strCells s) (by simpa [Lib.strCells_length] using hown') (by decide)
  · exact (hb1.grown hgrow (by have := hb1.size; omega) (fun k hk => (hown.lt k hk).1)).setCell (p := ⟨b, 1, none⟩) hB _
  · exact (hk1.grown hgrow (fun g hg => ownBlock_typed hown hg)).setCell ⟨b, 1, none⟩ rfl _
end Go.Proofs.YtkmonmpfbchffaaGreat.Build
