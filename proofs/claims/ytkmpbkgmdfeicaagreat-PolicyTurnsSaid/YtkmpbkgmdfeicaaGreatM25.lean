/- The library's iterator over a text's lines. -/
import Derived.Test.YtkmpbkgmdfeicaaGreatM24
import Derived.Shelf.Abstract
import Derived.Shelf.RegionOpen
import Derived.WalkKit
import Derived.OwnWalkIn
import Derived.TacticsInMore
import Derived.LoopNIn
import Derived.LoopIn
import Derived.Deep.RegionLaw
import Derived.IntWalk
import Derived.RangeFuncBox
import Derived.OrdersIn
import Derived.TacticsIn
import Derived.Maps.AppendAt
import Derived.Test.YtkmpbkgmdfeicaaGreatM21
import Derived.Test.YtkmpbkgmdfeicaaGreatM20
import Derived.Test.YtkmpbkgmdfeicaaGreatM11
import Derived.Test.YtkmpbkgmdfeicaaGreatM01
import Derived.Test.YtkmpbkgmdfeicaaGreatM10
namespace Go.Proofs.YtkmpbkgmdfeicaaGreat.LinesIter
set_option linter.unusedVariables false
set_option linter.unusedSimpArgs false
open Go.RowKit Go.Shelf Go.Sort Go.Proofs Go.Proofs.YtkmpbkgmdfeicaaGreat.Plain Go.Proofs.YtkmpbkgmdfeicaaGreat.Leaf Go.Proofs.YtkmpbkgmdfeicaaGreat.Named Go.Proofs.YtkmpbkgmdfeicaaGreat.Trim Go.Proofs.YtkmpbkgmdfeicaaGreat.TabP Go.Proofs.YtkmpbkgmdfeicaaGreat.Tab1 Go.Proofs.YtkmpbkgmdfeicaaGreat.Lines1 Go.Proofs.YtkmpbkgmdfeicaaGreat.Range
attribute [local go_sem] Oper.semAt_some
theorem idx_split (l : List UInt8) : (Lib.indexByte l 10 = -1 ∧ ∀ x ∈ l, x ≠ 10) ∨ ∃ p q, l = p ++ 10 :: q ∧ (∀ x ∈ p, x ≠ 10) ∧ Lib.indexByte l 10 = p.length := by
  induction l with
  | nil => exact .inl ⟨rfl, by simp⟩
  | cons b l ih =>
    unfold Lib.indexByte
    by_cases h : b = 10
    · subst h
      exact .inr ⟨[], l, rfl, by simp, by simp⟩
    · have hb : (b == 10) = false := by simpa using h
      simp only [hb, Bool.false_eq_true, if_false]
      rcases ih with ⟨h1, h2⟩ | ⟨p, q, h1, h2, h3⟩
      · left
        rw [h1]
        exact ⟨by simp, fun x hx => by rcases List.mem_cons.1 hx with e | e; · rw [e]; exact h
                                       · exact h2 x e⟩
      · right
        refine ⟨b :: p, q, by rw [h1]; rfl, fun x hx => by rcases List.mem_cons.1 hx with e | e; · rw [e]; exact h
                                                           · exact h2 x e, ?_⟩
        rw [h3, if_neg (by rw [beq_iff_eq]; omega)]
        simp
theorem lnA_nl (acc p q : List UInt8) (h : ∀ x ∈ p, x ≠ 10) : lnA acc (p ++ 10 :: q) = (acc ++ p) :: lnA [] q := by
  induction p generalizing acc with
  | nil => rw [List.nil_append, List.append_nil]; conv => lhs; unfold lnA
           rw [if_pos rfl]
  | cons a p ih =>
    rw [List.cons_append]
    conv => lhs; unfold lnA
    rw [if_neg (h a (by simp)), ih _ fun x hx => h x (by simp [hx]), List.append_assoc]
    rfl
theorem lnA_none (acc l : List UInt8) (h : ∀ x ∈ l, x ≠ 10) (hne : acc ++ l ≠ []) : lnA acc l = [acc ++ l] := by
  induction l generalizing acc with
  | nil => rw [List.append_nil] at hne ⊢; unfold lnA; rw [if_neg hne]
  | cons a l ih =>
    conv => lhs; unfold lnA
    rw [if_neg (h a (by simp)), ih _ (fun x hx => h x (by simp [hx])) (by simp), List.append_assoc]
    rfl
/-- A line without the newline at its end. -/
def strip (b : ByteArray) : Str := Lib.trimSuffix b.data.toList [10]
theorem trim_nl (p : List UInt8) : Lib.trimSuffix (p ++ [10]) [10] = p := by
  unfold Lib.trimSuffix Lib.hasSuffix
  rw [if_pos (List.isSuffixOf_iff_suffix.2 (List.suffix_append p [10]))]
  simp
theorem trim_none (l : List UInt8) (h : ∀ x ∈ l, x ≠ 10) : Lib.trimSuffix l [10] = l := by
  unfold Lib.trimSuffix Lib.hasSuffix
  rw [if_neg]
  intro hs
  exact h 10 ((List.isSuffixOf_iff_suffix.1 hs).subset (by simp)) rfl
def restSize (W : World) (B : Nat) : Nat := match W.cell? ⟨B, 0, none⟩ with | some (.string b) => b.size | _ => 0
theorem restSize_of {W : World} {B : Nat} {t : TypeId} {b : ByteArray} (h : Boxed W B t (.string b)) : restSize W B = b.size := by unfold restSize; rw [h.cell]
abbrev Pf (s rest : ByteArray) (pre : List ByteArray) : Prop := pre.map strip ++ lnA [] rest.data.toList = linesOf s
theorem ext_take (b : ByteArray) (i : Nat) : (b.extract 0 i).data.toList = b.data.toList.take i := by rw [ext_list]; simp
theorem ext_drop (b : ByteArray) (i : Nat) : (b.extract i b.size).data.toList = b.data.toList.drop i := by
  rw [ext_list, List.take_of_length_le (by rw [List.length_drop, toList_len]; omega)]
theorem pf_nl {s rest : ByteArray} {pre : List ByteArray} {p q : List UInt8} (h : Pf s rest pre) (e : rest.data.toList = p ++ 10 :: q) (hp : ∀ x ∈ p, x ≠ 10) :
    Pf s (rest.extract (p.length + 1) rest.size) (pre ++ [rest.extract 0 (p.length + 1)]) := by
  unfold Pf at *
  rw [← h, ext_drop, e, lnA_nl _ _ _ hp, List.map_append, List.append_assoc, List.map_singleton, strip, ext_take, e]
  have e1 : (p ++ 10 :: q).take (p.length + 1) = p ++ [10] := by rw [show p ++ 10 :: q = (p ++ [10]) ++ q from by simp, List.take_left' (by simp)]
  have e2 : (p ++ 10 :: q).drop (p.length + 1) = q := by rw [show p ++ 10 :: q = (p ++ [10]) ++ q from by simp, List.drop_left' (by simp)]
  rw [e1, e2, trim_nl]
  rfl
theorem pf_none {s rest : ByteArray} {pre : List ByteArray} (h : Pf s rest pre) (h0 : 0 < rest.size) (hp : ∀ x ∈ rest.data.toList, x ≠ 10) : Pf s ⟨#[]⟩ (pre ++ [rest]) := by
  unfold Pf at *
  rw [← h, lnA_none _ _ hp (by intro e; have := toList_len rest; rw [List.nil_append] at e; rw [e] at this; simp at this; omega), List.map_append, List.append_assoc, List.map_singleton, strip, trim_none _ hp]
  rfl
theorem pf_end {s rest : ByteArray} {pre : List ByteArray} (h : Pf s rest pre) (h0 : ¬ 0 < rest.size) : pre.map strip = linesOf s := by
  unfold Pf at h
  rw [List.eq_nil_of_length_eq_zero (show rest.data.toList.length = 0 by rw [toList_len]; omega)] at h
  rw [← h]
  exact (List.append_nil _).symm
set_option maxRecDepth 100000 in
set_option maxHeartbeats 1000000 in
theorem linesIter (s : ByteArray) (hs : s.size ≤ 100000) (n l B : Nat) (I J : List ByteArray → World → Prop) (hJI : ∀ pre W, J pre W → I pre W) (hJk : ∀ pre W W', J pre W → KeepsOthers W W' → I pre W' → J pre W')
    (hIs : ∀ pre W v, I pre W → I pre (W.setCell ⟨B, 0, none⟩ v)) (hId : ∀ pre W, I pre W → I pre W.drew)
    (hY : ∀ pre (x : ByteArray) W, J pre W → pre.length < s.size → x.size ≤ 100000 → YieldAt Fence.wide (n - 1) Tryz.prog l #[.string x] W fun e W' => e = .returned (.bool true) ∧ J (pre ++ [x]) W' ∧ (∀ v, Boxed W B 9 v → Boxed W' B 9 v))
    (W : World) (hb : Boxed W B 9 (.string s)) (h0 : J [] W) :
    CallsIn Fence.wide n Tryz.prog 146 #[.func (.yield l) #[] #[], .pointer (some ⟨B, 0, none⟩)] W fun e W' => (∃ v, e = .returned v) ∧ ∃ xs, xs.map strip = linesOf s ∧ J xs W' := by
  refine callsIn_of_wp Tryz.func146 rfl trivial ?_ rfl
  simp only [Tryz.ntmps146, List.size_toArray, List.length_cons, List.length_nil, Nat.reduceAdd, Nat.reduceSub, Array.replicate_succ, Array.replicate_zero, List.push_toArray, List.append_toArray, List.nil_append, List.cons_append]
  gi_wp2
  gi_loopw [3] (fun _ wr => ∃ (pre : List ByteArray) (rest : ByteArray), Boxed wr B 9 (.string rest) ∧ pre.length + rest.size ≤ s.size ∧ Hid (Pf s rest pre) ∧ J pre wr) (fun _ wr => restSize wr B)
  case atStart => exact ⟨[], s, hb, by simp, Lib.hid rfl, h0⟩
  case round =>
    obtain ⟨pre, rest, hbx, hle, hpf, hJ⟩ := hrel
    have hc := hbx.cell
    have hf := hbx.frozen
    have hm := restSize_of hbx
    by_cases h0 : 0 < rest.size
    · rcases idx_split rest.data.toList with ⟨h1, h2⟩ | ⟨p, q, h1, h2, h3⟩
      · have hn := Lib.hid (pf_none hpf.out h0 h2)
        have H1 := Lib.hid (show Lib.indexByte rest.data.toList (10 : Int).toNat.toUInt8 = -1 from h1)
        clear h1 h2
        gi_wp2_with fail
        refine ⟨trivial, (fun h => by cases h), (callsIn_wide.2 (Tryz.strings_IndexByte rest 10 _)).mono ?_⟩
        rintro e w' ⟨rfl, rfl⟩
        rw [H1.out]
        have hb2 : Boxed (w'.setCell ⟨B, 0, none⟩ (.string ⟨#[]⟩)) B 9 (.string ⟨#[]⟩) := hbx.set _
        have hJ2 := hJk _ _ _ hJ (KeepsOthers.setCell w' ⟨B, 0, none⟩ (.string ⟨#[]⟩)) (hIs _ _ _ (hJI _ _ hJ))
        obtain ⟨fn, tmps, assign, body, hy, hR⟩ := hY pre rest _ hJ2 (by omega) (by omega)
        gi_wp2_with fail
        refine ⟨(fun h => by cases h), hR.mono ?_⟩
        rintro e W3 ⟨rfl, hJ3, hk3⟩
        have hb3 := hk3 _ hb2
        have hm3 := restSize_of hb3
        gi_wp2_with fail
        go_roundw
        case rel => exact ⟨_, _, hb3, by rw [List.length_append]; show _ + 1 + 0 ≤ _; omega, hn, hJ3⟩
        case measure => rw [hm3, hm]; exact h0
      · have hplt : p.length < rest.size := by rw [← toList_len, h1]; simp
        have hn := Lib.hid (pf_nl hpf.out h1 h2)
        have H3 := Lib.hid (show Lib.indexByte rest.data.toList (10 : Int).toNat.toUInt8 = p.length from h3)
        clear h1 h2 h3
        gi_wp2_with fail
        refine ⟨trivial, (fun h => by cases h), (callsIn_wide.2 (Tryz.strings_IndexByte rest 10 _)).mono ?_⟩
        rintro e w' ⟨rfl, rfl⟩
        rw [H3.out]
        gi_wp2_with fail
        have hw1 : IntKind.i64.wrap ((p.length : Int) + 1) = (p.length : Int) + 1 := IntWalk.i64_in _ (by omega)
        have hw2 : (0 : Int) ≤ (p.length : Int) + 1 := by omega
        have hw3 : ((p.length : Int) + 1).toNat = p.length + 1 := by omega
        have hw4 : (p.length : Int) + 1 ≤ rest.size := by omega
        refine wpIn_wide.2 ?_
        go_region
        have hb2 : Boxed (w'.setCell ⟨B, 0, none⟩ (.string (rest.extract (p.length + 1) rest.size))).drew B 9 (.string (rest.extract (p.length + 1) rest.size)) := hbx.set _
        have hJ2 := hJk _ _ _ hJ ((KeepsOthers.setCell w' ⟨B, 0, none⟩ (.string (rest.extract (p.length + 1) rest.size))).trans (KeepsOthers.drew _)) (hId _ _ (hIs _ _ _ (hJI _ _ hJ)))
        clear hw1 hw2 hw3 hw4 hc hf
        generalize (w'.setCell ⟨B, 0, none⟩ (.string (rest.extract (p.length + 1) rest.size))).drew = W2 at *
        obtain ⟨fn, tmps, assign, body, hy, hR⟩ := hY pre (rest.extract 0 (p.length + 1)) W2 hJ2 (by omega) (by rw [ext_size]; omega)
        gi_wp2_with fail
        refine ⟨(fun h => by cases h), hR.mono ?_⟩
        rintro e W3 ⟨rfl, hJ3, hk3⟩
        have hb3 := hk3 _ hb2
        have hz := ext_size rest (p.length + 1) rest.size
        have hm3 := restSize_of hb3
        gi_wp2_with fail
        go_roundw
        case rel => exact ⟨_, _, hb3, by rw [List.length_append]; show _ + 1 + _ ≤ _; omega, hn, hJ3⟩
        case measure => rw [hm3, hm]; omega
    · have hend := pf_end hpf.out h0
      gi_wp2_with fail
      go_end0
      exact ⟨⟨_, rfl⟩, pre, hend, hJ⟩
end Go.Proofs.YtkmpbkgmdfeicaaGreat.LinesIter
/- A region that draws its order, within a round: each order that may come up, as a list. -/
namespace Go.Proofs.YtkmpbkgmdfeicaaGreat.Orders
set_option linter.unusedVariables false
set_option linter.unusedSimpArgs false
def orders (md : Region.Mode) (ops : Array Oper) : Nat → Array Bool → List (List Nat)
  | 0, _ => [[]]
  | fuel + 1, listed => match Region.ready md ops listed with
    | [] => [[]]
    | rs => rs.flatMap fun i => (orders md ops fuel (listed.setIfInBounds i true)).map (i :: ·)
theorem go_mem {md : Region.Mode} {ops : Array Oper} : ∀ (fuel t : Nat) (listed : Array Bool), Region.linearise.go md ops fuel t listed [] ∈ orders md ops fuel listed := by
  intro fuel
  induction fuel with
  | zero => intro t listed; simp [Region.linearise.go, orders]
  | succ fuel ih =>
    intro t listed
    rw [show Region.linearise.go md ops (fuel + 1) t listed [] = (match (Region.ready md ops listed)[t % (Region.ready md ops listed).length]? with
      | some i => Region.linearise.go md ops fuel (t / (Region.ready md ops listed).length) (listed.setIfInBounds i true) [i]
      | none => [].reverse) from by simp only [Region.linearise.go]; rfl]
    unfold orders
    generalize Region.ready md ops listed = rs
    cases rs with
    | nil => simp
    | cons x xs =>
      have hlt : t % (x :: xs).length < (x :: xs).length := Nat.mod_lt _ (by simp)
      rw [List.getElem?_eq_getElem hlt]
      simp only []
      rw [linearise_go_acc, List.reverse_singleton, List.singleton_append, List.mem_flatMap]
      exact ⟨_, List.getElem_mem hlt, List.mem_map.2 ⟨_, ih _ _, rfl⟩⟩
theorem wpIn_region_orders {F : Fence} {n : Nat} {P : Program} {id : Nat} {ops : Array Oper} {Q : Exit → Act → World → Prop} {a : Act} {w : World} (hm : P.follows .mixedOrders = true) (L : List (List Nat))
    (hL : orders .any ops ops.size (Array.replicate ops.size false) = L) (h : ∀ l ∈ L, wpListIn F n P ops Q (l.filterMap fun i => ops[i]?) a w.drew) : (Code.region id ops true).wpIn F n P Q a w := by
  have hl : ∀ (l : List Nat), wpOpsIn F n P ops Q l = wpListIn F n P ops Q (l.filterMap fun i => ops[i]?) := by
    intro l
    induction l with
    | nil => rfl
    | cons i l ih =>
      funext a w
      rw [wpOpsIn_cons, ih]
      unfold wpOpIn
      cases e : ops[i]? with
      | none => rw [List.filterMap_cons_none e]
      | some o => rw [List.filterMap_cons_some e]; rfl
  refine wpIn_region_draw fun t => ?_
  simp only [Region.schedule, hm, Bool.true_or, if_true]
  rw [hl]
  exact h _ (hL ▸ go_mem _ _ _)
end Go.Proofs.YtkmpbkgmdfeicaaGreat.Orders
/- A text's lines, in the program. -/
namespace Go.Proofs.YtkmpbkgmdfeicaaGreat.LinesScan
set_option linter.unusedVariables false
set_option linter.unusedSimpArgs false
open Go.RowKit Go.Shelf Go.Sort Go.Proofs Go.Proofs.YtkmpbkgmdfeicaaGreat.Plain Go.Proofs.YtkmpbkgmdfeicaaGreat.Leaf Go.Proofs.YtkmpbkgmdfeicaaGreat.Named Go.Proofs.YtkmpbkgmdfeicaaGreat.Trim Go.Proofs.YtkmpbkgmdfeicaaGreat.TabP Go.Proofs.YtkmpbkgmdfeicaaGreat.Tab1 Go.Proofs.YtkmpbkgmdfeicaaGreat.Tab2 Go.Proofs.YtkmpbkgmdfeicaaGreat.Tab3 Go.Proofs.YtkmpbkgmdfeicaaGreat.Tab4 Go.Proofs.YtkmpbkgmdfeicaaGreat.Tab5 Go.Proofs.YtkmpbkgmdfeicaaGreat.Lines1 Go.Proofs.YtkmpbkgmdfeicaaGreat.Range Go.Proofs.YtkmpbkgmdfeicaaGreat.LinesIter Go.Proofs.YtkmpbkgmdfeicaaGreat.Orders
attribute [local go_sem] Oper.semAt_some
theorem linesMk (n : Nat) (s : ByteArray) (w : World) : CallsIn Fence.wide n Tryz.prog 109 #[.string s] w fun e w' => e = .returned (.func (.func 146) #[] #[.pointer (some ⟨w.heap.size, 0, none⟩)]) ∧ w' = w.alloc (.cells #[.string s] 9) := by
  refine callsIn_of_wp Tryz.func109 rfl trivial ?_ rfl
  simp only [Tryz.ntmps109, List.size_toArray, List.length_cons, List.length_nil, Nat.reduceAdd, Nat.reduceSub, Array.replicate_succ, Array.replicate_zero, List.push_toArray, List.append_toArray, List.nil_append, List.cons_append]
  gi_wp2
  go_ret
  exact ⟨rfl, rfl⟩
/-- What the loop's own cells hold when the lines pre have come. -/
def Inv (b : Nat) (w : World) (pre : List ByteArray) (W : World) : Prop :=
  (∃ v, Boxed W b 33 v ∧ W.ownsRow (b + 2) 9 1 v (pre.map strip).length ((pre.map strip).map encStr) ∧ True) ∧ Below b w W
theorem inv_own (b : Nat) (w : World) (h : w.heap.size = b + 2) : OwnFrom w.heap.size (Inv b w) :=
  OwnFrom.and (Own.from (holdsRow_own (b + 2) b 33 9 1 (fun pre : List ByteArray => (pre.map strip).length) (fun pre : List ByteArray => (pre.map strip).map encStr) (fun _ _ => True)) _) (ownFrom_below (by omega) (by omega))
theorem inv_set {b : Nat} {w : World} {pre : List ByteArray} {W : World} (v' : Value) (h : Inv b w pre W) : Inv b w pre (W.setCell ⟨b + 1, 0, none⟩ v') := by
  obtain ⟨⟨v, hv, hrow, _⟩, hB⟩ := h
  refine ⟨⟨v, hv.other (by omega) _, hrow.kept (grownBy_setCell' W (b + 1) v') (.inr ?_), trivial⟩, hB.setCell (p := ⟨b + 1, 0, none⟩) (Nat.le_succ _) v'⟩
  intro e
  have := (hrow.lt _ e).1
  omega
theorem inv_drew {b : Nat} {w : World} {pre : List ByteArray} {W : World} (h : Inv b w pre W) : Inv b w pre W.drew := by
  obtain ⟨⟨v, hv, hrow, _⟩, hB⟩ := h
  exact ⟨⟨v, hv, hrow, trivial⟩, hB.drew⟩
set_option maxRecDepth 100000 in
set_option maxHeartbeats 2000000 in
theorem linesScan (s : ByteArray) (w : World) (hs : s.size ≤ 100000) : Calls Tryz.prog 65 #[.string s] w (RowPost (linesOf s) w) := by
  obtain ⟨i0, hi, hz0, hz1, hz2⟩ := info_parts infoStr
  refine (callsIn_wide (n := 3)).1 ?_
  refine callsIn_of_wp_marks Tryz.func65 rfl trivial ?_ rfl
  simp only [Tryz.ntmps65, List.size_toArray, List.length_cons, List.length_nil, Nat.reduceAdd, Nat.reduceSub, Array.replicate_succ, Array.replicate_zero, List.push_toArray, List.append_toArray, List.nil_append, List.cons_append]
  gi_wp2_with fail
  refine ⟨trivial, (linesMk _ s _).mono ?_⟩
  rintro e w' ⟨rfl, rfl⟩
  have bO := Boxed.new w 33 (.slice none 0 0)
  have bS := Boxed.new (w.alloc (.cells #[.slice none 0 0] 33)) 9 (.string s)
  rw [World.size_alloc] at bS
  have hB0 : Below w.heap.size w ((w.alloc (.cells #[.slice none 0 0] 33)).alloc (.cells #[.string s] 9)) := ((Below.refl _ w).alloc (Nat.le_refl _) _).alloc (by simp) _
  have hsz : ((w.alloc (.cells #[.slice none 0 0] 33)).alloc (.cells #[.string s] 9)).heap.size = w.heap.size + 2 := by simp
  gi_wp2_with fail
  refine rangeAll (n := 3) (by omega) (gf := 146) (lb := #[.pointer (some ⟨w.heap.size + 1, 0, none⟩)]) (by simp [Act.eval]) (enters_of Tryz.func146 (by kernel_rfl) rfl) (encs := fun x : ByteArray => #[Value.string x]) (fun _ => rfl)
    (S := fun xs => xs.map strip = linesOf s) (N := s.size) (Ok := fun x => x.size ≤ 100000) (Kp := fun A B => ∀ v, Boxed A (w.heap.size + 1) 9 v → Boxed B (w.heap.size + 1) 9 v) (fun h k v hv => k v (h v hv))
    (fun W l o o' hl ho hc v hv => (World.putObj_heap_other (by rw [hsz] at hl; omega)).trans hv)
    (Inv w.heap.size ((w.alloc (.cells #[.slice none 0 0] 33)).alloc (.cells #[.string s] 9))) (inv_own _ _ hsz) ⟨⟨_, bO.alloc _, World.ownsRow_nil _ _ _ _, trivial⟩, Below.refl _ _⟩
    (fun x => { tmps := #[.string s, undef, .slice none 0 0, .pointer (some ⟨w.heap.size, 0, none⟩), .string x, .string s, .func (.func 146) #[] #[.pointer (some ⟨w.heap.size + 1, 0, none⟩)], .string x, undef, undef, undef, undef, undef, undef], defers := [] }) ?assign ?body ?seq ?done
  case assign =>
    intro l x W K hK
    gi_wp2
    exact hK
  case body =>
    rintro l pre x W ⟨⟨v, hv, hrow, _⟩, hB⟩ hlt hx
    have hc := hv.cell
    have hk : (pre.map strip).length + 1 ≤ 100000 := by rw [List.length_map]; omega
    have hLx := Lib.hid (show (pre ++ [x]).map strip = pre.map strip ++ [strip x] by simp)
    generalize pre.map strip = L at *
    gi_wp2_with fail
    obtain ⟨sv, hsv⟩ : ∃ sv : ByteArray, Value.string sv = encStr (strip x) := ⟨⟨(strip x).toArray⟩, rfl⟩
    have htrim := Lib.hid (show Calls Tryz.prog 110 #[.string x, .string ⟨#[10]⟩] W.drew fun e w' => e = .returned (.string sv) ∧ w' = W.drew from by
      rw [hsv]; exact Tryz.strings_TrimSuffix x ⟨#[10]⟩ W.drew (by omega))
    have HV := Lib.hid hsv
    have hrow2 : ((W.alloc (.cells #[.string sv] 9)).drew).ownsRow (w.heap.size + 2) 9 1 v L.length (L.map encStr) := hrow.alloc _
    have hcell2 : ∀ (j : Nat) u, [Value.string sv][j]? = some u → ((W.alloc (.cells #[.string sv] 9)).drew).cell? ((⟨W.heap.size, 0, none⟩ : Addr).add j) = some u := cell_one_new _ _ _
    have hc2 : ((W.alloc (.cells #[.string sv] 9)).drew).cell? ⟨w.heap.size, 0, none⟩ = some v := (hv.alloc _).cell
    have hc3 : (W.alloc (.cells #[.string sv] 9)).cell? ⟨w.heap.size, 0, none⟩ = some v := (hv.alloc _).cell
    have hsize := hB.size
    rw [hsz] at hsize
    clear hsv bO bS hB0 hsz
    refine wpIn_region_orders (by kernel_rfl) [[0, 1, 2, 3, 4, 5], [1, 0, 2, 3, 4, 5], [1, 2, 0, 3, 4, 5], [1, 2, 3, 0, 4, 5]] (by kernel_rfl) ?_
    intro o ho
    simp only [List.mem_cons, List.not_mem_nil, or_false] at ho
    rcases ho with rfl | rfl | rfl | rfl
    · simp only [List.filterMap_cons, List.filterMap_nil, List.getElem?_toArray, List.getElem?_cons_zero, List.getElem?_cons_succ]
      gi_wp2_with fail
      refine ⟨trivial, (CallsIn.inRound l (callsIn_wide.2 htrim.out)).mono ?_⟩
      rintro e w' ⟨rfl, rfl⟩
      iterate 4 (first | go_values | gi_step | go_simp)
      refine wpListIn_append_own _ rfl _ _ 33 rfl (w.heap.size + 2) 9 i0 (.string ⟨#[]⟩) 1 16 Tryz.underlying33 hi hz0 hz1 hz2 rfl (by decide) v L.length (L.map encStr) rfl hrow2 ⟨W.heap.size, 0, none⟩ 1 1 [.string sv] rfl rfl hcell2 (by simp [Value.oneCell']) (by unfold maxLen; omega) (by omega) (by simp; omega) ?_
      intro v' w1 hown' hgrow _
      obtain ⟨g', cap', rfl⟩ := ownsRow_succ hown'
      have hgrow2 : (W.alloc (.cells #[.string sv] 9)).grownBy w1 v.ownBlock := ⟨hgrow.1, hgrow.2, hgrow.3, hgrow.4, hgrow.5⟩
      obtain ⟨hv1, hv2, _, hk2, hb2⟩ := hv.appended (by decide) (own_base hrow (Nat.le_add_right _ 2)) (by omega) (Nat.le_refl _) (own_base hown' (Nat.le_add_right _ 2)) hgrow2
      have hr2 := hown'.kept (grownBy_setCell' w1 w.heap.size (.slice (some ⟨g', 0, none⟩) (L.length + 1) cap')) (.inr (hv1.not_row (by decide) hown').symm)
      have hc1 := hv1.cell
      have hf1 := hv1.frozen
      have hne : some (w.heap.size + 1) ≠ v.ownBlock := fun e => by have := (hrow.lt _ e.symm).1; omega
      have hBk := Lib.hid (hB.trans hb2)
      rw [HV.out] at hr2
      have hr3 := own_app hr2 hLx.out
      have hkp : Hid (∀ u, Boxed W (w.heap.size + 1) 9 u → Boxed (w1.setCell ⟨w.heap.size, 0, none⟩ (.slice (some ⟨g', 0, none⟩) (L.length + 1) cap')) (w.heap.size + 1) 9 u) := Lib.hid fun u hu => ((hu.alloc _).kept hgrow2 hne).other (by omega) _
      clear hc2 hc3 hrow hrow2 hcell2 hown' hgrow hgrow2 hr2 hne hb2
      gi_wp2_with fail
      exact ⟨hk2, hkp.out, ⟨_, hv2, hr3, trivial⟩, hBk.out⟩
    · simp only [List.filterMap_cons, List.filterMap_nil, List.getElem?_toArray, List.getElem?_cons_zero, List.getElem?_cons_succ]
      gi_wp2_with fail
      refine ⟨trivial, (CallsIn.inRound l (callsIn_wide.2 htrim.out)).mono ?_⟩
      rintro e w' ⟨rfl, rfl⟩
      iterate 4 (first | go_values | gi_step | go_simp)
      refine wpListIn_append_own _ rfl _ _ 33 rfl (w.heap.size + 2) 9 i0 (.string ⟨#[]⟩) 1 16 Tryz.underlying33 hi hz0 hz1 hz2 rfl (by decide) v L.length (L.map encStr) rfl hrow2 ⟨W.heap.size, 0, none⟩ 1 1 [.string sv] rfl rfl hcell2 (by simp [Value.oneCell']) (by unfold maxLen; omega) (by omega) (by simp; omega) ?_
      intro v' w1 hown' hgrow _
      obtain ⟨g', cap', rfl⟩ := ownsRow_succ hown'
      have hgrow2 : (W.alloc (.cells #[.string sv] 9)).grownBy w1 v.ownBlock := ⟨hgrow.1, hgrow.2, hgrow.3, hgrow.4, hgrow.5⟩
      obtain ⟨hv1, hv2, _, hk2, hb2⟩ := hv.appended (by decide) (own_base hrow (Nat.le_add_right _ 2)) (by omega) (Nat.le_refl _) (own_base hown' (Nat.le_add_right _ 2)) hgrow2
      have hr2 := hown'.kept (grownBy_setCell' w1 w.heap.size (.slice (some ⟨g', 0, none⟩) (L.length + 1) cap')) (.inr (hv1.not_row (by decide) hown').symm)
      have hc1 := hv1.cell
      have hf1 := hv1.frozen
      have hne : some (w.heap.size + 1) ≠ v.ownBlock := fun e => by have := (hrow.lt _ e.symm).1; omega
      have hBk := Lib.hid (hB.trans hb2)
      rw [HV.out] at hr2
      have hr3 := own_app hr2 hLx.out
      have hkp : Hid (∀ u, Boxed W (w.heap.size + 1) 9 u → Boxed (w1.setCell ⟨w.heap.size, 0, none⟩ (.slice (some ⟨g', 0, none⟩) (L.length + 1) cap')) (w.heap.size + 1) 9 u) := Lib.hid fun u hu => ((hu.alloc _).kept hgrow2 hne).other (by omega) _
      clear hc2 hc3 hrow hrow2 hcell2 hown' hgrow hgrow2 hr2 hne hb2
      gi_wp2_with fail
      exact ⟨hk2, hkp.out, ⟨_, hv2, hr3, trivial⟩, hBk.out⟩
    · simp only [List.filterMap_cons, List.filterMap_nil, List.getElem?_toArray, List.getElem?_cons_zero, List.getElem?_cons_succ]
      gi_wp2_with fail
      refine ⟨trivial, (CallsIn.inRound l (callsIn_wide.2 htrim.out)).mono ?_⟩
      rintro e w' ⟨rfl, rfl⟩
      iterate 6 (first | go_values | gi_step | go_simp)
      refine wpListIn_append_own _ rfl _ _ 33 rfl (w.heap.size + 2) 9 i0 (.string ⟨#[]⟩) 1 16 Tryz.underlying33 hi hz0 hz1 hz2 rfl (by decide) v L.length (L.map encStr) rfl hrow2 ⟨W.heap.size, 0, none⟩ 1 1 [.string sv] rfl rfl hcell2 (by simp [Value.oneCell']) (by unfold maxLen; omega) (by omega) (by simp; omega) ?_
      intro v' w1 hown' hgrow _
      obtain ⟨g', cap', rfl⟩ := ownsRow_succ hown'
      have hgrow2 : (W.alloc (.cells #[.string sv] 9)).grownBy w1 v.ownBlock := ⟨hgrow.1, hgrow.2, hgrow.3, hgrow.4, hgrow.5⟩
      obtain ⟨hv1, hv2, _, hk2, hb2⟩ := hv.appended (by decide) (own_base hrow (Nat.le_add_right _ 2)) (by omega) (Nat.le_refl _) (own_base hown' (Nat.le_add_right _ 2)) hgrow2
      have hr2 := hown'.kept (grownBy_setCell' w1 w.heap.size (.slice (some ⟨g', 0, none⟩) (L.length + 1) cap')) (.inr (hv1.not_row (by decide) hown').symm)
      have hc1 := hv1.cell
      have hf1 := hv1.frozen
      have hne : some (w.heap.size + 1) ≠ v.ownBlock := fun e => by have := (hrow.lt _ e.symm).1; omega
      have hBk := Lib.hid (hB.trans hb2)
      rw [HV.out] at hr2
      have hr3 := own_app hr2 hLx.out
      have hkp : Hid (∀ u, Boxed W (w.heap.size + 1) 9 u → Boxed (w1.setCell ⟨w.heap.size, 0, none⟩ (.slice (some ⟨g', 0, none⟩) (L.length + 1) cap')) (w.heap.size + 1) 9 u) := Lib.hid fun u hu => ((hu.alloc _).kept hgrow2 hne).other (by omega) _
      clear hc2 hc3 hrow hrow2 hcell2 hown' hgrow hgrow2 hr2 hne hb2
      gi_wp2_with fail
      exact ⟨hk2, hkp.out, ⟨_, hv2, hr3, trivial⟩, hBk.out⟩
    · simp only [List.filterMap_cons, List.filterMap_nil, List.getElem?_toArray, List.getElem?_cons_zero, List.getElem?_cons_succ]
      gi_wp2_with fail
      refine ⟨trivial, (CallsIn.inRound l (callsIn_wide.2 htrim.out)).mono ?_⟩
      rintro e w' ⟨rfl, rfl⟩
      iterate 6 (first | go_values | gi_step | go_simp)
      refine wpListIn_append_own _ rfl _ _ 33 rfl (w.heap.size + 2) 9 i0 (.string ⟨#[]⟩) 1 16 Tryz.underlying33 hi hz0 hz1 hz2 rfl (by decide) v L.length (L.map encStr) rfl hrow2 ⟨W.heap.size, 0, none⟩ 1 1 [.string sv] rfl rfl hcell2 (by simp [Value.oneCell']) (by unfold maxLen; omega) (by omega) (by simp; omega) ?_
      intro v' w1 hown' hgrow _
      obtain ⟨g', cap', rfl⟩ := ownsRow_succ hown'
      have hgrow2 : (W.alloc (.cells #[.string sv] 9)).grownBy w1 v.ownBlock := ⟨hgrow.1, hgrow.2, hgrow.3, hgrow.4, hgrow.5⟩
      obtain ⟨hv1, hv2, _, hk2, hb2⟩ := hv.appended (by decide) (own_base hrow (Nat.le_add_right _ 2)) (by omega) (Nat.le_refl _) (own_base hown' (Nat.le_add_right _ 2)) hgrow2
      have hr2 := hown'.kept (grownBy_setCell' w1 w.heap.size (.slice (some ⟨g', 0, none⟩) (L.length + 1) cap')) (.inr (hv1.not_row (by decide) hown').symm)
      have hc1 := hv1.cell
      have hf1 := hv1.frozen
      have hne : some (w.heap.size + 1) ≠ v.ownBlock := fun e => by have := (hrow.lt _ e.symm).1; omega
      have hBk := Lib.hid (hB.trans hb2)
      rw [HV.out] at hr2
      have hr3 := own_app hr2 hLx.out
      have hkp : Hid (∀ u, Boxed W (w.heap.size + 1) 9 u → Boxed (w1.setCell ⟨w.heap.size, 0, none⟩ (.slice (some ⟨g', 0, none⟩) (L.length + 1) cap')) (w.heap.size + 1) 9 u) := Lib.hid fun u hu => ((hu.alloc _).kept hgrow2 hne).other (by omega) _
      clear hc2 hc3 hrow hrow2 hcell2 hown' hgrow hgrow2 hr2 hne hb2
      gi_wp2_with fail
      exact ⟨hk2, hkp.out, ⟨_, hv2, hr3, trivial⟩, hBk.out⟩
  case seq =>
    intro l J W hW hJI hJk hY h0
    exact linesIter s hs 2 l (w.heap.size + 1) _ J hJI hJk (fun _ _ v h => inv_set v h) (fun _ _ h => inv_drew h) hY W ((hW.block (w.heap.size + 1) (by rw [hsz]; omega)).trans bS) h0
  case done =>
    rintro D xs W hD hS ⟨⟨v, hv, hrow, _⟩, hB⟩ hK
    have hc := hv.cell
    rw [show xs.map strip = linesOf s from hS] at hrow
    gi_wp2
    refine ⟨by simp, .inl ⟨_, _, rfl, run_takeDeferred hK, ?_⟩⟩
    rw [hsz] at hD
    exact ⟨_, results_tmp rfl _ _ _, v, rfl, own_base (ownsRow_putObj hrow _ hK rfl) (Nat.le_add_right _ 2), hB0.trans (hB.trans (belowK_b (w := w) (Nat.le_refl _) W D _ _ (by omega) hK rfl rfl))⟩
end Go.Proofs.YtkmpbkgmdfeicaaGreat.LinesScan
/- A text that asks nothing as a policy: policy.Parse, by contract. -/
namespace Go.Proofs.YtkmpbkgmdfeicaaGreat.PolU
set_option linter.unusedVariables false
set_option linter.unusedSimpArgs false
open Go.RowKit Go.Sort Go.Lib Go.Proofs Go.Proofs.YtkmpbkgmdfeicaaGreat.Plain Go.Proofs.YtkmpbkgmdfeicaaGreat.SynP Go.Proofs.YtkmpbkgmdfeicaaGreat.TabP Go.Proofs.YtkmpbkgmdfeicaaGreat.Tab1 Go.Proofs.YtkmpbkgmdfeicaaGreat.Tab5 Go.Proofs.YtkmpbkgmdfeicaaGreat.Grown Go.Proofs.YtkmpbkgmdfeicaaGreat.Lines1 Go.Proofs.YtkmpbkgmdfeicaaGreat.LinesScan Go.Proofs.YtkmpbkgmdfeicaaGreat.Scan3 Go.Proofs.YtkmpbkgmdfeicaaGreat.SynA Go.Proofs.YtkmpbkgmdfeicaaGreat.SynC Go.Proofs.YtkmpbkgmdfeicaaGreat.SynR Go.Proofs.YtkmpbkgmdfeicaaGreat.SynS Go.Proofs.YtkmpbkgmdfeicaaGreat.SynV Go.Proofs.YtkmpbkgmdfeicaaGreat.SynX Go.Proofs.YtkmpbkgmdfeicaaGreat.SynY Go.Proofs.YtkmpbkgmdfeicaaGreat.SynJ Go.Proofs.YtkmpbkgmdfeicaaGreat.QryP Go.Proofs.YtkmpbkgmdfeicaaGreat.QryX Go.Proofs.YtkmpbkgmdfeicaaGreat.PolA Go.Proofs.YtkmpbkgmdfeicaaGreat.PolD Go.Proofs.YtkmpbkgmdfeicaaGreat.PolE Go.Proofs.YtkmpbkgmdfeicaaGreat.PolG Go.Proofs.YtkmpbkgmdfeicaaGreat.PolI Go.Proofs.YtkmpbkgmdfeicaaGreat.PolM Go.Proofs.YtkmpbkgmdfeicaaGreat.PolP Go.Proofs.YtkmpbkgmdfeicaaGreat.PolQ Go.Proofs.YtkmpbkgmdfeicaaGreat.PolR Go.Proofs.YtkmpbkgmdfeicaaGreat.PolT
set_option linter.unusedVariables false
set_option linter.unusedSimpArgs false
def FineL (d : Dr) (a : TkAns) : Prop := isL (okToks a) = false ∧ d.s.length ≤ 9000 ∧ d.g.length ≤ 9000 ∧ d.h.length ≤ 9000 ∧ ((addR d (okToks a)).2.2 = 0 → (addR d (okToks a)).1.py.fit)
theorem add (B D : Nat) (d : Dr) (s : ByteArray) (w : World) (hs : s.size ≤ 1000000) (hd : DrAt w B D d) (hf : FineL d (ansOf s)) : Calls Tryz.prog 66 #[.pointer (some ⟨D, 0, none⟩), .string s] w (AddPost (addM d (ansOf s)) B D w) := by
  obtain ⟨f1, f2, f3, f4, f5⟩ := hf
  cases e : ansOf s with
  | bad c er => exact add_bad B D d s w hs hd c er e
  | ok L =>
    rw [e] at f1 f5
    by_cases h0 : 0 < L.length
    · by_cases hg : leads L growT = true
      · exact add_grow B D d s w L hs hd f2 f3 f4 e h0 f1 hg f5
      · have hg' : leads L growT = false := by simpa using hg
        by_cases hh : leads L shrinkT = true
        · exact add_shrink B D d s w L hs hd f2 f3 f4 e h0 f1 hg' hh f5
        · exact add_state B D d s w L hs hd f2 f3 f4 e h0 f1 hg' (by simpa using hh) f5
    · obtain rfl : L = [] := List.eq_nil_of_length_eq_zero (by omega)
      exact add_none B D d s w hs hd e
def ln (l : Str) : ByteArray := ⟨l.toArray⟩
/-- All lines, one behind another: what they come to, and the first fault. -/
def runM : List Str → Nat → Dr → Dr × Int × Int × Int
  | [], _, d => (d, 0, 0, 0)
  | l :: ls, i, d => if (addM d (ansOf (ln l))).2.2 = 0 then runM ls (i + 1) (addM d (ansOf (ln l))).1 else ((addM d (ansOf (ln l))).1, (addM d (ansOf (ln l))).2.2, ((i + 1 : Nat) : Int), (addM d (ansOf (ln l))).2.1)
def Fine : List Str → Dr → Prop
  | [], d => d.s.length ≤ 1000 ∧ d.g.length ≤ 1000 ∧ d.h.length ≤ 1000
  | l :: ls, d => l.length ≤ 1000000 ∧ FineL d (ansOf (ln l)) ∧ ((addM d (ansOf (ln l))).2.2 = 0 → Fine ls (addM d (ansOf (ln l))).1)
theorem runM_go {T : List Str} {k : Nat} (h : k < T.length) (d : Dr) (h0 : (addM d (ansOf (ln T[k]))).2.2 = 0) : runM (T.drop k) k d = runM (T.drop (k + 1)) (k + 1) (addM d (ansOf (ln T[k]))).1 := by
  rw [List.drop_eq_getElem_cons h]
  show (if _ then _ else _) = _
  rw [if_pos h0]
theorem runM_no {T : List Str} {k : Nat} (h : k < T.length) (d : Dr) (h0 : ¬ (addM d (ansOf (ln T[k]))).2.2 = 0) : runM (T.drop k) k d = ((addM d (ansOf (ln T[k]))).1, (addM d (ansOf (ln T[k]))).2.2, ((k + 1 : Nat) : Int), (addM d (ansOf (ln T[k]))).2.1) := by
  rw [List.drop_eq_getElem_cons h]
  show (if _ then _ else _) = _
  rw [if_neg h0]
theorem fine_at {T : List Str} {k : Nat} (h : k < T.length) {d : Dr} (hf : Fine (T.drop k) d) : T[k].length ≤ 1000000 ∧ FineL d (ansOf (ln T[k])) ∧ ((addM d (ansOf (ln T[k]))).2.2 = 0 → Fine (T.drop (k + 1)) (addM d (ansOf (ln T[k]))).1) := by
  rw [List.drop_eq_getElem_cons h] at hf
  exact hf
def d0 : Dr := ⟨[], [], []⟩
theorem own_beside {w w' : World} {B D C : Nat} {e : TypeId} {size n : Nat} {v : Value} {xs : List Value} (h : w.ownsRow C e size v n xs) (hb : Beside B D w w') (hD : D < C) (hB : w.heap.size ≤ B) : w'.ownsRow C e size v n xs := by
  refine ⟨h.1, ?_⟩
  rcases h.2 with h0 | ⟨g, cap, cur, rfl, hg, hh, hc⟩
  · exact .inl h0
  · have hlt : g < w.heap.size := (Array.getElem?_eq_some_iff.1 hh).1
    exact .inr ⟨g, cap, cur, rfl, hg, (hb.block g (by omega) (by omega)).trans hh, hc⟩
theorem blk_far {X : World} {n m i : Nat} {o : Option Obj} (h : X.heap[n]? = o) (hne : m ≠ n) (v : Value) : (X.setCell ⟨m, i, none⟩ v).heap[n]? = o := by
  rw [← h]
  unfold World.setCell
  simp only [Array.getElem?_modify]
  rw [if_neg hne]
section
variable {X : World} {n : Nat} {a0 a1 a2 a3 b0 b1 b2 : Value}
theorem seven_blk {x0 x1 x2 x3 y0 y1 y2 : Value} (q0 : X.heap[n]? = some (.cells #[x0, x1, x2, x3] 26 (0, 0))) (q1 : X.heap[n + 1]? = some (.cells #[y0, y1, y2] 37 (0, 0))) : (((((((X.setCell ⟨n, 0, none⟩ a0).setCell ⟨n, 1, none⟩ a1).setCell ⟨n, 2, none⟩ a2).setCell ⟨n, 3, none⟩ a3).setCell ⟨n + 1, 0, none⟩ b0).setCell ⟨n + 1, 1, none⟩ b1).setCell ⟨n + 1, 2, none⟩ b2).heap[n]? = some (.cells #[a0, a1, a2, a3] 26 (0, 0)) ∧ (((((((X.setCell ⟨n, 0, none⟩ a0).setCell ⟨n, 1, none⟩ a1).setCell ⟨n, 2, none⟩ a2).setCell ⟨n, 3, none⟩ a3).setCell ⟨n + 1, 0, none⟩ b0).setCell ⟨n + 1, 1, none⟩ b1).setCell ⟨n + 1, 2, none⟩ b2).heap[n + 1]? = some (.cells #[b0, b1, b2] 37 (0, 0)) := by
  have p : ((((X.setCell ⟨n, 0, none⟩ a0).setCell ⟨n, 1, none⟩ a1).setCell ⟨n, 2, none⟩ a2).setCell ⟨n, 3, none⟩ a3).heap[n]? = some (.cells #[a0, a1, a2, a3] 26 (0, 0)) := blk_set (blk_set (blk_set (blk_set q0 0 a0) 1 a1) 2 a2) 3 a3
  have f : ((((X.setCell ⟨n, 0, none⟩ a0).setCell ⟨n, 1, none⟩ a1).setCell ⟨n, 2, none⟩ a2).setCell ⟨n, 3, none⟩ a3).heap[n + 1]? = some (.cells #[y0, y1, y2] 37 (0, 0)) := blk_far (blk_far (blk_far (blk_far q1 (by omega) _) (by omega) _) (by omega) _) (by omega) _
  exact ⟨blk_far (blk_far (blk_far p (by omega) _) (by omega) _) (by omega) _, blk_set (blk_set (blk_set f 0 b0) 1 b1) 2 b2⟩
theorem seven_below {w : World} {B : Nat} (h : Below B w X) (hB : B ≤ n) : Below B w (((((((X.setCell ⟨n, 0, none⟩ a0).setCell ⟨n, 1, none⟩ a1).setCell ⟨n, 2, none⟩ a2).setCell ⟨n, 3, none⟩ a3).setCell ⟨n + 1, 0, none⟩ b0).setCell ⟨n + 1, 1, none⟩ b1).setCell ⟨n + 1, 2, none⟩ b2) :=
  ((((((h.setCell (p := ⟨n, 0, none⟩) hB _).setCell (p := ⟨n, 1, none⟩) hB _).setCell (p := ⟨n, 2, none⟩) hB _).setCell (p := ⟨n, 3, none⟩) hB _).setCell (p := ⟨n + 1, 0, none⟩) (by show B ≤ n + 1; omega) _).setCell (p := ⟨n + 1, 1, none⟩) (by show B ≤ n + 1; omega) _).setCell (p := ⟨n + 1, 2, none⟩) (by show B ≤ n + 1; omega) _
theorem seven_far {g : Nat} (h0 : n ≠ g) (h1 : n + 1 ≠ g) (i : Nat) : (((((((X.setCell ⟨n, 0, none⟩ a0).setCell ⟨n, 1, none⟩ a1).setCell ⟨n, 2, none⟩ a2).setCell ⟨n, 3, none⟩ a3).setCell ⟨n + 1, 0, none⟩ b0).setCell ⟨n + 1, 1, none⟩ b1).setCell ⟨n + 1, 2, none⟩ b2).cell? ⟨g, i, none⟩ = X.cell? ⟨g, i, none⟩ := by
  rw [set_far _ _ _ _ _ _ h1, set_far _ _ _ _ _ _ h1, set_far _ _ _ _ _ _ h1, set_far _ _ _ _ _ _ h0, set_far _ _ _ _ _ _ h0, set_far _ _ _ _ _ _ h0, set_far _ _ _ _ _ _ h0]
theorem seven_size : (((((((X.setCell ⟨n, 0, none⟩ a0).setCell ⟨n, 1, none⟩ a1).setCell ⟨n, 2, none⟩ a2).setCell ⟨n, 3, none⟩ a3).setCell ⟨n + 1, 0, none⟩ b0).setCell ⟨n + 1, 1, none⟩ b1).setCell ⟨n + 1, 2, none⟩ b2).heap.size = X.heap.size := by simp only [set_size]
theorem seven_rg {A : Option Addr} {L : List Rl} (h : RG X A L) {C C' : Array Value} {t t' : TypeId} (q0 : X.heap[n]? = some (.cells C t (0, 0))) (q1 : X.heap[n + 1]? = some (.cells C' t' (0, 0))) (hC : ∀ (j : Nat) (s : ByteArray), C[j]? ≠ some (Value.string s)) (hC' : ∀ (j : Nat) (s : ByteArray), C'[j]? ≠ some (Value.string s)) : RG (((((((X.setCell ⟨n, 0, none⟩ a0).setCell ⟨n, 1, none⟩ a1).setCell ⟨n, 2, none⟩ a2).setCell ⟨n, 3, none⟩ a3).setCell ⟨n + 1, 0, none⟩ b0).setCell ⟨n + 1, 1, none⟩ b1).setCell ⟨n + 1, 2, none⟩ b2) A L := fun hp => by
  obtain ⟨g, o, e, hg, hc⟩ := h hp
  have h0 := (hc 0 hp).1
  have n0 : n ≠ g := fun e => by subst e; rw [Lib.cell_of_heap q0] at h0; exact hC _ _ h0
  have n1 : n + 1 ≠ g := fun e => by subst e; rw [Lib.cell_of_heap q1] at h0; exact hC' _ _ h0
  exact ⟨g, o, e, by rw [seven_size]; exact hg, fun j hj => by rw [seven_far n0 n1, seven_far n0 n1]; exact hc j hj⟩
theorem seven_sg {A : Option Addr} {L : List St} (h : SG X A L) {C C' : Array Value} {t t' : TypeId} (q0 : X.heap[n]? = some (.cells C t (0, 0))) (q1 : X.heap[n + 1]? = some (.cells C' t' (0, 0))) (hC : ∀ (j : Nat) (s : ByteArray), C[j]? ≠ some (Value.string s)) (hC' : ∀ (j : Nat) (s : ByteArray), C'[j]? ≠ some (Value.string s)) : SG (((((((X.setCell ⟨n, 0, none⟩ a0).setCell ⟨n, 1, none⟩ a1).setCell ⟨n, 2, none⟩ a2).setCell ⟨n, 3, none⟩ a3).setCell ⟨n + 1, 0, none⟩ b0).setCell ⟨n + 1, 1, none⟩ b1).setCell ⟨n + 1, 2, none⟩ b2) A L := fun hp => by
  obtain ⟨g, o, e, hg, hc⟩ := h hp
  have h0 := (hc 0 hp).2.1
  have n0 : n ≠ g := fun e => by subst e; rw [Lib.cell_of_heap q0] at h0; exact hC _ _ h0
  have n1 : n + 1 ≠ g := fun e => by subst e; rw [Lib.cell_of_heap q1] at h0; exact hC' _ _ h0
  exact ⟨g, o, e, by rw [seven_size]; exact hg, fun j hj => by
    rw [seven_far n0 n1, seven_far n0 n1, seven_far n0 n1, seven_far n0 n1, seven_far n0 n1, seven_far n0 n1, seven_far n0 n1, seven_far n0 n1, seven_far n0 n1]; exact hc j hj⟩
end
theorem no4 {a b c d : Value} (ha : ∀ s, a ≠ .string s) (hb : ∀ s, b ≠ .string s) (hc : ∀ s, c ≠ .string s) (hd : ∀ s, d ≠ .string s) : ∀ (j : Nat) (s : ByteArray), (#[a, b, c, d] : Array Value)[j]? ≠ some (.string s)
  | 0, s, h => by injection h with h; exact ha _ h
  | 1, s, h => by injection h with h; exact hb _ h
  | 2, s, h => by injection h with h; exact hc _ h
  | 3, s, h => by injection h with h; exact hd _ h
  | k + 4, s, h => by simp at h
theorem no3 {a b c : Value} (ha : ∀ s, a ≠ .string s) (hb : ∀ s, b ≠ .string s) (hc : ∀ s, c ≠ .string s) : ∀ (j : Nat) (s : ByteArray), (#[a, b, c] : Array Value)[j]? ≠ some (.string s)
  | 0, s, h => by injection h with h; exact ha _ h
  | 1, s, h => by injection h with h; exact hb _ h
  | 2, s, h => by injection h with h; exact hc _ h
  | k + 3, s, h => by simp at h
theorem three_alloc (w : World) (X Y Z : Obj) : (((w.alloc X).alloc Y).alloc Z).heap[w.heap.size]? = some X ∧ (((w.alloc X).alloc Y).alloc Z).heap[w.heap.size + 1]? = some Y ∧ (((w.alloc X).alloc Y).alloc Z).heap[w.heap.size + 2]? = some Z := by
  have a := heap_alloc_new w X
  have b := heap_alloc_new (w.alloc X) Y
  have c := heap_alloc_new ((w.alloc X).alloc Y) Z
  simp only [World.size_alloc] at b c
  refine ⟨?_, ?_, c⟩
  · exact ((Below.refl (w.heap.size + 1) ((w.alloc X))).alloc (by simp) Y |>.alloc (by simp) Z).block _ (by omega) |>.trans a
  · exact ((Below.refl (w.heap.size + 2) (((w.alloc X).alloc Y))).alloc (by simp) Z).block _ (by omega) |>.trans b
def zeroF : Obj := .cells #[.int .i64 0, .int .i64 0, .int .i64 0] 37
def zeroD : Obj := .cells #[.slice none 0 0, .slice none 0 0, .slice none 0 0, .slice none 0 0] 86
def PolPost (r : Dr × Int × Int × Int) (w : World) (e : Ending) (w' : World) : Prop :=
  if r.2.1 = 0 then ∃ B1 k1 B2 k2 B3 k3, e = .returned (.tuple #[.agg #[.slice B1 (sortSt (normS r.1.s r.1.s.length)).length k1, .slice B2 (sortRl r.1.g).length k2, .slice B3 (sortRl r.1.h).length k3, .slice none 0 0], .agg #[.int .i64 0, .int .i64 0, .int .i64 0]]) ∧ SG w' B1 (sortSt (normS r.1.s r.1.s.length)) ∧ RG w' B2 (sortRl r.1.g) ∧ RG w' B3 (sortRl r.1.h) ∧ Below w.heap.size w w'
  else e = .returned (.tuple #[.agg #[.slice none 0 0, .slice none 0 0, .slice none 0 0, .slice none 0 0], .agg #[.int .i64 r.2.1, .int .i64 r.2.2.1, .int .i64 r.2.2.2]]) ∧ Below w.heap.size w w'
set_option maxHeartbeats 2000000 in
set_option maxRecDepth 100000 in
theorem parse (s : ByteArray) (w : World) (hs : s.size ≤ 8000) (hf : Fine (linesOf s) d0) : Calls Tryz.prog 24 #[.string s] w (PolPost (runM (linesOf s) 0 d0) w) := by
  have HLn := Lib.hid (fun w' => linesScan s w' (by omega))
  have hll := linesOf_len s
  obtain ⟨T, hT⟩ : ∃ T, linesOf s = T := ⟨_, rfl⟩
  rw [hT] at HLn hf hll ⊢
  have Hf := Lib.hid hf
  have dz : decide ((8000 : Int) < s.size) = false := by simp; omega
  have dz' : ¬ (8000 : Int) < s.size := by omega
  obtain ⟨RR, hRR⟩ : ∃ RR, runM T 0 d0 = RR := ⟨_, rfl⟩
  rw [hRR]
  have HRR := Lib.hid hRR
  clear hT hf hRR
  go_enter Tryz.func24, Tryz.ntmps24
  go_wp2_with fail
  refine (HLn.out _).mono ?_
  rintro e w1 ⟨v, rfl, hown, hb1⟩
  obtain ⟨tP, tF, tD⟩ := three_alloc w (.cells #[.slice none 0 0, .slice none 0 0, .slice none 0 0, .slice none 0 0] 26) (.cells #[.int .i64 0, .int .i64 0, .int .i64 0] 37) (.cells #[.slice none 0 0, .slice none 0 0, .slice none 0 0, .slice none 0 0] 86)
  have zw : w.heap.size + 3 ≤ w1.heap.size := by have := hb1.size; simpa using this
  have hP := blk_below tP hb1 (by simp only [World.size_alloc]; omega)
  have hFl := blk_below tF hb1 (by simp only [World.size_alloc]; omega)
  have hDb := blk_below tD hb1 (by simp only [World.size_alloc]; omega)
  have hlw : Below w.heap.size w w1 := ((((Below.refl w.heap.size w).alloc (Nat.le_refl _) _).alloc (by simp only [World.size_alloc]; omega) _).alloc (by simp only [World.size_alloc]; omega) _).trans (hb1.mono (by simp only [World.size_alloc]; omega))
  have hown' : w1.ownsRow (w.heap.size + 3) 9 1 v T.length (T.map encStr) := SynH.own_base hown (by simp)
  have HO := Lib.hid hown'
  have HP := Lib.hid hP
  have HFl := Lib.hid hFl
  have HLw := Lib.hid hlw
  have HD0 : Hid (DrAt w1 w1.heap.size (w.heap.size + 2) d0) := Lib.hid ⟨none, 0, none, 0, none, 0, by omega, Nat.le_refl _, hDb, World.ownsRow_nil _ _ _ _, World.ownsRow_nil _ _ _ _, World.ownsRow_nil _ _ _ _, fun g h => by simp [Value.ownBlock] at h⟩
  obtain ⟨AT, cT, rfl, _, _⟩ := SRow.of_own hown'
  clear tP tF tD hown hb1 hP hFl hDb hlw hown'
  go_wp2_with fail
  go_loopw [17] (fun i wr => ∃ (k : Nat) (d : Dr), k ≤ T.length ∧ i = .int .i64 k ∧ Hid (DrAt wr w1.heap.size (w.heap.size + 2) d) ∧ Hid (Fine (T.drop k) d) ∧ Hid (runM T 0 d0 = runM (T.drop k) k d) ∧ Hid (Beside w1.heap.size (w.heap.size + 2) w1 wr)) (fun i _ => T.length - (intOf i).toNat)
  case atStart => exact ⟨0, d0, by omega, rfl, HD0, by simpa using Hf, Lib.hid (by simp), Lib.hid (Beside.refl _ _ _)⟩
  case round =>
    obtain ⟨k, d, hk, rfl, hd, hfi, hrun, hbs⟩ := hrel
    by_cases hlt : k < T.length
    · have d1 : decide ((k : Int) < T.length) = true := by simp; omega
      have p1 : (0 : Int) ≤ k := by omega
      have p2 : (k : Int) < T.length := by omega
      have hrow : SRow wr AT T := by
        obtain ⟨A2, c2, e, _, hr⟩ := SRow.of_own (own_beside HO.out hbs.out (by omega) (Nat.le_refl _))
        injection e with e1
        subst e1; exact hr
      obtain ⟨g, o, rfl, hg, hc⟩ := hrow (by omega)
      have hx := hc k hlt
      obtain ⟨hl, hfl, hnx⟩ := fine_at hlt hfi.out
      have hAd := add w1.heap.size (w.heap.size + 2) d (ln T[k]) wr (by show T[k].toArray.size ≤ 1000000; simpa using hl) hd.out hfl
      have HGo := Lib.hid (fun h => runM_go hlt d h)
      have HNo := Lib.hid (fun h => runM_no hlt d h)
      have HNx := Lib.hid hnx
      obtain ⟨r, hr⟩ : ∃ r, addM d (ansOf (ln T[k])) = r := ⟨_, rfl⟩
      rw [hr] at hAd HGo HNo HNx
      unfold ln at hAd
      generalize (⟨T[k].toArray⟩ : ByteArray) = x at *
      have HAd := Lib.hid hAd
      obtain ⟨d', at_, why⟩ := r
      unfold AddPost at HAd
      simp only at HAd HGo HNo HNx
      clear hc hrow hl hfl hnx hAd hr hfi hd
      go_wp2_with fail
      refine HAd.out.mono ?_
      rintro e w2 ⟨rfl, hdr, hb2⟩
      have HDr := Lib.hid hdr
      have HB2 := Lib.hid (hbs.out.trans hb2)
      clear hdr hb2
      by_cases hw : why = 0
      · subst hw
        have hd2 := Lib.hid (HDr.out rfl)
        have hf2 := Lib.hid (HNx.out rfl)
        have hr2 : Hid (runM T 0 d0 = runM (T.drop (k + 1)) (k + 1) d') := Lib.hid (by rw [hrun.out, HGo.out rfl])
        clear HGo HNo
        go_wp2_with fail
        go_roundw
        case rel => exact ⟨k + 1, d', by omega, by go_num, hd2, hf2, hr2, HB2⟩
        case measure => simp [intOf]; omega
      · have hres : RR = (d', why, ((k + 1 : Nat) : Int), at_) := by rw [← HRR.out, hrun.out, HNo.out hw]
        have e1 : (why != 0) = true := by simpa using hw
        have q0 := (HB2.out.block w.heap.size (by omega) (by omega)).trans HP.out
        have q1 := (HB2.out.block (w.heap.size + 1) (by omega) (by omega)).trans HFl.out
        have hcP := fun o => Lib.cell_of_heap q0 o
        have hfP := blk_frozen q0
        have hcF := fun o => Lib.cell_of_heap q1 o
        have hfF := blk_frozen q1
        have hbl := (HLw.out.trans ((HB2.out.low (by omega)).mono (by omega : w.heap.size ≤ w.heap.size + 2)))
        have HBl := Lib.hid hbl
        have HRes := Lib.hid hres
        have HQ0 := Lib.hid q0
        have HQ1 := Lib.hid q1
        clear HGo HNo hres hbl q0 q1
        go_wp2_with fail
        obtain ⟨z0, z1⟩ := seven_blk (a0 := .slice none 0 0) (a1 := .slice none 0 0) (a2 := .slice none 0 0) (a3 := .slice none 0 0) (b0 := .int .i64 why) (b1 := .int .i64 ((k : Int) + 1)) (b2 := .int .i64 at_) HQ0.out HQ1.out
        have hc0 := fun o => Lib.cell_of_heap z0 o
        have hc1 := fun o => Lib.cell_of_heap z1 o
        refine bodyPost_ret (v := .tuple #[.agg #[.slice none 0 0, .slice none 0 0, .slice none 0 0, .slice none 0 0], .agg #[.int .i64 why, .int .i64 ((k : Int) + 1), .int .i64 at_]]) (by simp [results, Tryz.results24, go_sem, hc0, hc1]) rfl ?_
        rw [HRes.out]
        unfold PolPost
        rw [if_neg (by exact hw)]
        exact ⟨by simp, seven_below HBl.out (Nat.le_refl _)⟩
    · have hkT : k = T.length := by omega
      have d1 : decide ((k : Int) < T.length) = false := by simp; omega
      have hres : RR = (d, 0, 0, 0) := by rw [← HRR.out, hrun.out, List.drop_of_length_le (by omega)]; rfl
      obtain ⟨m1, m2, m3⟩ : d.s.length ≤ 1000 ∧ d.g.length ≤ 1000 ∧ d.h.length ≤ 1000 := by
        have := hfi.out
        rw [List.drop_of_length_le (by omega)] at this
        exact this
      have q0 := (hbs.out.block w.heap.size (by omega) (by omega)).trans HP.out
      have q1 := (hbs.out.block (w.heap.size + 1) (by omega) (by omega)).trans HFl.out
      have hbl := (HLw.out.trans ((hbs.out.low (by omega)).mono (by omega : w.heap.size ≤ w.heap.size + 2)))
      obtain ⟨A1, c1, A2, c2, A3, c3, hdr⟩ := hd.out
      have HNr := Lib.hid (normal0 A1 A2 A3 none c1 c2 c3 0 d.s d.g d.h wr m1 m2 m3 (pg_of hdr).s (pg_of hdr).g (pg_of hdr).h)
      have hcD := fun o => Lib.cell_of_heap hdr.box o
      have hzw : w.heap.size + 2 < wr.heap.size := by have := hdr.hD; have := hdr.hB; omega
      have HRes := Lib.hid hres
      have HQ0 := Lib.hid q0
      have HQ1 := Lib.hid q1
      have HBl := Lib.hid hbl
      unfold NormPost at HNr
      clear hres q0 q1 hbl hdr hd hfi hrun
      generalize hNs : sortSt (normS d.s d.s.length) = NS at *
      generalize hNg : sortRl d.g = NG at *
      generalize hNh : sortRl d.h = NH at *
      have HE := Lib.hid (And.intro hNs (And.intro hNg hNh))
      clear hNs hNg hNh
      go_wp2_with fail
      refine HNr.out.mono ?_
      rintro e w2 ⟨B1, k1, B2, k2, B3, k3, rfl, h1, h2, h3, hb2⟩
      have q0 := blk_below HQ0.out hb2 (by omega)
      have q1 := blk_below HQ1.out hb2 (by omega)
      have HQ0' := Lib.hid q0
      have HQ1' := Lib.hid q1
      have hcP := fun o => Lib.cell_of_heap q0 o
      have hfP := blk_frozen q0
      have hcF := fun o => Lib.cell_of_heap q1 o
      have hfF := blk_frozen q1
      have H1 := Lib.hid h1
      have H2 := Lib.hid h2
      have H3 := Lib.hid h3
      have HB2 := Lib.hid (HBl.out.trans (hb2.mono (by omega)))
      clear q0 q1 h1 h2 h3 hb2 hcD
      go_wp2_with fail
      obtain ⟨z0, z1⟩ := seven_blk (a0 := .slice B1 NS.length k1) (a1 := .slice B2 NG.length k2) (a2 := .slice B3 NH.length k3) (a3 := .slice none 0 0) (b0 := .int .i64 0) (b1 := .int .i64 0) (b2 := .int .i64 0) HQ0'.out HQ1'.out
      have hc0 := fun o => Lib.cell_of_heap z0 o
      have hc1 := fun o => Lib.cell_of_heap z1 o
      have n4 : ∀ (j : Nat) (s : ByteArray), (#[.slice none 0 0, .slice none 0 0, .slice none 0 0, .slice none 0 0] : Array Value)[j]? ≠ some (Value.string s) := no4 (fun s h => by cases h) (fun s h => by cases h) (fun s h => by cases h) (fun s h => by cases h)
      have n3 : ∀ (j : Nat) (s : ByteArray), (#[.int .i64 0, .int .i64 0, .int .i64 0] : Array Value)[j]? ≠ some (Value.string s) := no3 (fun s h => by cases h) (fun s h => by cases h) (fun s h => by cases h)
      refine bodyPost_ret (v := .tuple #[.agg #[.slice B1 NS.length k1, .slice B2 NG.length k2, .slice B3 NH.length k3, .slice none 0 0], .agg #[.int .i64 0, .int .i64 0, .int .i64 0]]) (by simp [results, Tryz.results24, go_sem, hc0, hc1]) rfl ?_
      rw [HRes.out]
      unfold PolPost
      rw [if_pos (by rfl)]
      simp only
      rw [HE.out.1, HE.out.2.1, HE.out.2.2]
      exact ⟨B1, k1, B2, k2, B3, k3, rfl, seven_sg H1.out HQ0'.out HQ1'.out n4 n3, seven_rg H2.out HQ0'.out HQ1'.out n4 n3, seven_rg H3.out HQ0'.out HQ1'.out n4 n3, seven_below HB2.out (Nat.le_refl _)⟩
end Go.Proofs.YtkmpbkgmdfeicaaGreat.PolU
/- A policy that is put together line by line: neither the order of what is put in nor what is put in twice tells; and what fits as a whole fits at each step. -/
namespace Go.Proofs.YtkmpbkgmdfeicaaGreat.PolY
set_option linter.unusedVariables false
set_option linter.unusedSimpArgs false
open Go.RowKit Go.Sort Go.Lib Go.Proofs Go.Proofs.YtkmpbkgmdfeicaaGreat.Plain Go.Proofs.YtkmpbkgmdfeicaaGreat.SynP Go.Proofs.YtkmpbkgmdfeicaaGreat.TabP Go.Proofs.YtkmpbkgmdfeicaaGreat.SynD Go.Proofs.YtkmpbkgmdfeicaaGreat.SynJ Go.Proofs.YtkmpbkgmdfeicaaGreat.QryP Go.Proofs.YtkmpbkgmdfeicaaGreat.PolA Go.Proofs.YtkmpbkgmdfeicaaGreat.PolE Go.Proofs.YtkmpbkgmdfeicaaGreat.PolG Go.Proofs.YtkmpbkgmdfeicaaGreat.PolH Go.Proofs.YtkmpbkgmdfeicaaGreat.PolI Go.Proofs.YtkmpbkgmdfeicaaGreat.PolK
set_option linter.unusedVariables false
set_option linter.unusedSimpArgs false
theorem mem_addL {α : Type} [DecidableEq α] {T : List α} {x y : α} : y ∈ addL T x ↔ y ∈ T ∨ y = x := by
  unfold addL
  split
  · rename_i h
    exact ⟨.inl, fun h2 => h2.elim id (fun e => e ▸ h)⟩
  · simp
theorem nodup_addL {α : Type} [DecidableEq α] {T : List α} {x : α} (h : T.Nodup) : (addL T x).Nodup := by
  unfold addL
  split
  · exact h
  · rename_i hx
    rw [List.nodup_append]
    refine ⟨h, by simp, fun a ha b hb e => ?_⟩
    simp at hb
    exact hx (hb ▸ e ▸ ha)
/-- What a line puts in. -/
inductive Ad where
  | none
  | grow (r : Rl)
  | shrink (r : Rl)
  | stmt (s : St)
def put (p : Py) : Ad → Py
  | .none => p
  | .grow r => ⟨p.stmts, addL p.grow r, p.shrink, p.asks⟩
  | .shrink r => ⟨p.stmts, p.grow, addL p.shrink r, p.asks⟩
  | .stmt s => ⟨addL p.stmts s, p.grow, p.shrink, p.asks⟩
def puts (p : Py) (es : List Ad) : Py := es.foldl put p
theorem puts_cons (p : Py) (e : Ad) (es : List Ad) : puts p (e :: es) = puts (put p e) es := rfl
theorem puts_mem : ∀ (es : List Ad) (p : Py), (∀ x, x ∈ (puts p es).stmts ↔ x ∈ p.stmts ∨ Ad.stmt x ∈ es) ∧ (∀ x, x ∈ (puts p es).grow ↔ x ∈ p.grow ∨ Ad.grow x ∈ es) ∧ (∀ x, x ∈ (puts p es).shrink ↔ x ∈ p.shrink ∨ Ad.shrink x ∈ es) ∧ (puts p es).asks = p.asks
  | [], p => ⟨fun x => by simp [puts], fun x => by simp [puts], fun x => by simp [puts], rfl⟩
  | e :: es, p => by
    obtain ⟨h1, h2, h3, h4⟩ := puts_mem es (put p e)
    rw [puts_cons]
    refine ⟨fun x => ?_, fun x => ?_, fun x => ?_, ?_⟩
    · rw [h1]; cases e <;> simp [put, mem_addL, or_assoc]
    · rw [h2]; cases e <;> simp [put, mem_addL, or_assoc]
    · rw [h3]; cases e <;> simp [put, mem_addL, or_assoc]
    · rw [h4]; cases e <;> rfl
/-- Each row has each of its own once. -/
structure Once (p : Py) : Prop where
  s : p.stmts.Nodup
  g : p.grow.Nodup
  h : p.shrink.Nodup
  q : p.asks.Nodup
theorem Once.put {p : Py} (h : Once p) (e : Ad) : Once (put p e) := by
  cases e
  · exact h
  · exact ⟨h.s, nodup_addL h.g, h.h, h.q⟩
  · exact ⟨h.s, h.g, nodup_addL h.h, h.q⟩
  · exact ⟨nodup_addL h.s, h.g, h.h, h.q⟩
theorem Once.puts {p : Py} (h : Once p) : ∀ (es : List Ad), Once (puts p es) := fun es => by
  induction es generalizing p with
  | nil => exact h
  | cons e es ih => exact ih (h.put e)
/-- One policy within another, as sets. -/
structure In (p q : Py) : Prop where
  s : ∀ x ∈ p.stmts, x ∈ q.stmts
  g : ∀ x ∈ p.grow, x ∈ q.grow
  h : ∀ x ∈ p.shrink, x ∈ q.shrink
  q : ∀ x ∈ p.asks, x ∈ q.asks
theorem In.puts (p : Py) (es : List Ad) : In p (puts p es) := by
  obtain ⟨h1, h2, h3, h4⟩ := puts_mem es p
  exact ⟨fun x h => (h1 x).2 (.inl h), fun x h => (h2 x).2 (.inl h), fun x h => (h3 x).2 (.inl h), fun x h => h4 ▸ h⟩
theorem take_all {α : Type} (L : List α) : L.take L.length = L := List.take_length
theorem In.roles {p q : Py} (h : In p q) : ∀ x ∈ rolesP p, x ∈ rolesP q := fun x hx => by
  unfold rolesP rolesS rolesA at *
  simp only [take_all, List.mem_append, List.mem_flatten, List.mem_map] at hx ⊢
  rcases hx with ((hx | hx) | ⟨l, ⟨s, hs, rfl⟩, hx⟩) | ⟨l, ⟨s, hs, rfl⟩, hx⟩
  · exact .inl (.inl (.inl (h.g x hx)))
  · exact .inl (.inl (.inr (h.h x hx)))
  · exact .inl (.inr ⟨_, ⟨s, h.s s hs, rfl⟩, hx⟩)
  · exact .inr ⟨_, ⟨s, h.q s hs, rfl⟩, hx⟩
theorem In.prins {p q : Py} (h : In p q) : ∀ x ∈ prinsT p, x ∈ prinsT q := fun x hx => by
  unfold prinsT ownersR whosS whosA at *
  simp only [take_all, List.mem_append, List.mem_flatten, List.mem_map, List.mem_filter] at hx ⊢
  rcases hx with (⟨r, hr, rfl⟩ | ⟨s, ⟨hs, hk⟩, rfl⟩) | ⟨l, ⟨s, hs, rfl⟩, hx⟩
  · exact .inl (.inl ⟨r, h.roles r hr, rfl⟩)
  · exact .inl (.inr ⟨s, ⟨h.s s hs, hk⟩, rfl⟩)
  · exact .inr ⟨_, ⟨s, h.q s hs, rfl⟩, hx⟩
theorem In.names {p q : Py} (h : In p q) : ∀ x ∈ namesT p, x ∈ namesT q := fun x hx => by
  unfold namesT namesR viasS at *
  simp only [take_all, List.mem_append, List.mem_map, List.mem_filter] at hx ⊢
  rcases hx with ⟨r, hr, rfl⟩ | ⟨s, ⟨hs, hk⟩, rfl⟩
  · exact .inl ⟨r, h.roles r hr, rfl⟩
  · exact .inr ⟨s, ⟨h.s s hs, hk⟩, rfl⟩
theorem tab_le {T U : List Str} (h : ∀ x ∈ T, x ∈ U) : (tab T).length ≤ (tab U).length :=
  length_le_of_subset (nodup_of_rising (tab_sorted _)) fun x hx => (mem_tab _ _).2 (h x ((mem_tab _ _).1 hx))
/-- What fits as a whole fits in part. -/
theorem fits_in {p q : Py} (h : In p q) (o : Once p) (hf : fitsP q = true) : fitsP p = true := by
  unfold fitsP at *
  simp only [Bool.and_eq_true, decide_eq_true_eq] at hf ⊢
  obtain ⟨⟨⟨⟨⟨f1, f2⟩, f3⟩, f4⟩, f5⟩, f6⟩ := hf
  have g1 := length_le_of_subset o.s h.s
  have g2 := length_le_of_subset o.g h.g
  have g3 := length_le_of_subset o.h h.h
  have g4 : p.asks.length ≤ q.asks.length := by classical exact length_le_of_subset o.q h.q
  have g5 := tab_le h.prins
  have g6 := tab_le h.names
  refine ⟨⟨⟨⟨⟨?_, ?_⟩, ?_⟩, ?_⟩, ?_⟩, ?_⟩ <;> omega
/-- Rows of the same members sort alike. -/
theorem sort_one {α : Type} [DecidableEq α] {c : α → α → Int} (H : Tri c) (E : ∀ x y, c x y = 0 → x = y) {L M : List α} (h : ∀ x, x ∈ L ↔ x ∈ M) : sortL c [] L = sortL c [] M :=
  strict_one H (sortL_strict H E _ _ List.Pairwise.nil) (sortL_strict H E _ _ List.Pairwise.nil) fun x => by rw [sortL_mem, sortL_mem, h]
/-- Two rows of lines that put in the same: the same members. -/
theorem puts_same {p : Py} {es fs : List Ad} (h : ∀ e, e ≠ Ad.none → (e ∈ es ↔ e ∈ fs)) : (∀ x, x ∈ (puts p es).stmts ↔ x ∈ (puts p fs).stmts) ∧ (∀ x, x ∈ (puts p es).grow ↔ x ∈ (puts p fs).grow) ∧ (∀ x, x ∈ (puts p es).shrink ↔ x ∈ (puts p fs).shrink) ∧ (puts p es).asks = (puts p fs).asks := by
  obtain ⟨h1, h2, h3, h4⟩ := puts_mem es p
  obtain ⟨k1, k2, k3, k4⟩ := puts_mem fs p
  refine ⟨fun x => ?_, fun x => ?_, fun x => ?_, by rw [h4, k4]⟩
  · rw [h1, k1, h _ (by simp)]
  · rw [h2, k2, h _ (by simp)]
  · rw [h3, k3, h _ (by simp)]
end Go.Proofs.YtkmpbkgmdfeicaaGreat.PolY
/- Lines that are right, as what they put in: what a text of such lines comes to (maths). -/
namespace Go.Proofs.YtkmpbkgmdfeicaaGreat.PolZ
set_option linter.unusedVariables false
set_option linter.unusedSimpArgs false
open Go.RowKit Go.Sort Go.Lib Go.Proofs Go.Proofs.YtkmpbkgmdfeicaaGreat.Plain Go.Proofs.YtkmpbkgmdfeicaaGreat.SynP Go.Proofs.YtkmpbkgmdfeicaaGreat.TabP Go.Proofs.YtkmpbkgmdfeicaaGreat.Scan3 Go.Proofs.YtkmpbkgmdfeicaaGreat.SynY Go.Proofs.YtkmpbkgmdfeicaaGreat.QryP Go.Proofs.YtkmpbkgmdfeicaaGreat.Qry5 Go.Proofs.YtkmpbkgmdfeicaaGreat.PolA Go.Proofs.YtkmpbkgmdfeicaaGreat.PolE Go.Proofs.YtkmpbkgmdfeicaaGreat.PolG Go.Proofs.YtkmpbkgmdfeicaaGreat.PolH Go.Proofs.YtkmpbkgmdfeicaaGreat.PolI Go.Proofs.YtkmpbkgmdfeicaaGreat.PolK Go.Proofs.YtkmpbkgmdfeicaaGreat.PolP Go.Proofs.YtkmpbkgmdfeicaaGreat.PolR Go.Proofs.YtkmpbkgmdfeicaaGreat.PolU Go.Proofs.YtkmpbkgmdfeicaaGreat.PolY
set_option linter.unusedVariables false
set_option linter.unusedSimpArgs false
/-- What a line puts in, if it is right. -/
def eff : TkAns → Option Ad
  | .bad _ _ => none
  | .ok [] => some .none
  | .ok L =>
    if leads L growT then (if agreeF L shapeG < L.length ∨ agreeF L shapeG < 4 then none else some (.grow ⟨QryB.textAt L 1, QryB.textAt L 3⟩))
    else if leads L shrinkT then (if agreeF L shapeG < L.length ∨ agreeF L shapeG < 4 then none else some (.shrink ⟨QryB.textAt L 1, QryB.textAt L 3⟩))
    else if (parseA (.ok L)).2.2 = 0 then some (.stmt (parseA (.ok L)).1) else none
theorem rest_good {R : List Rl} {L : List Tk} (h : ¬ (agreeF L shapeG < L.length ∨ agreeF L shapeG < 4)) : restM R L = (addL R ⟨QryB.textAt L 1, QryB.textAt L 3⟩, 0, 0) := by
  unfold restM
  simp only
  rw [if_neg (fun h2 => h (.inl h2)), if_neg (fun h2 => h (.inr h2))]
theorem addR_eff {d : Dr} {t : Tk} {L : List Tk} {e : Ad} (he : eff (.ok (t :: L)) = some e) : (addR d (t :: L)).2.2 = 0 ∧ (addR d (t :: L)).1.py = put d.py e := by
  simp only [eff] at he
  unfold addR
  split at he
  · rename_i h1
    rw [if_pos h1]
    split at he
    · exact absurd he (by simp)
    · rename_i h2
      injection he with he
      subst he
      rw [rest_good h2]
      exact ⟨rfl, rfl⟩
  · rename_i h1
    rw [if_neg h1]
    split at he
    · rename_i h1'
      rw [if_pos h1']
      split at he
      · exact absurd he (by simp)
      · rename_i h2
        injection he with he
        subst he
        rw [rest_good h2]
        exact ⟨rfl, rfl⟩
    · rename_i h1'
      rw [if_neg h1']
      split at he
      · rename_i h2
        injection he with he
        subst he
        exact ⟨h2, rfl⟩
      · exact absurd he (by simp)
theorem addM_eff {d : Dr} {a : TkAns} {e : Ad} (he : eff a = some e) (hf : fitsP (put d.py e) = true) : (addM d a).2.2 = 0 ∧ (addM d a).1.py = put d.py e := by
  cases a with
  | bad c er => exact absurd he (by simp [eff])
  | ok L =>
    cases L with
    | nil =>
      have : e = .none := by simpa [eff] using he.symm
      subst this
      exact ⟨rfl, rfl⟩
    | cons t L =>
      obtain ⟨h1, h2⟩ := addR_eff (d := d) he
      unfold addM
      simp only
      rw [if_neg (fun h => by rw [h2, hf] at h; exact absurd h.2 (by simp))]
      exact ⟨h1, h2⟩
theorem runM_eff : ∀ (ls : List Str) (es : List Ad) (i : Nat) (d : Dr), ls.map (fun l => eff (ansOf (ln l))) = es.map some → Once d.py → fitsP (puts d.py es) = true → (runM ls i d).2 = (0, 0, 0) ∧ (runM ls i d).1.py = puts d.py es
  | [], [], i, d, _, _, _ => ⟨rfl, rfl⟩
  | [], e :: es, i, d, h, _, _ => by simp at h
  | l :: ls, [], i, d, h, _, _ => by simp at h
  | l :: ls, e :: es, i, d, h, ho, hf => by
    simp only [List.map_cons, List.cons.injEq] at h
    have hp : fitsP (put d.py e) = true := fits_in (In.puts (put d.py e) es) (ho.put e) hf
    obtain ⟨h1, h2⟩ := addM_eff (d := d) h.1 hp
    have ih := runM_eff ls es (i + 1) (addM d (ansOf (ln l))).1 h.2 (by rw [h2]; exact ho.put e) (by rw [h2]; exact hf)
    unfold runM
    rw [if_pos h1]
    rw [h2] at ih
    exact ih
/-- Two texts of right lines that put in the same come to the same members. -/
theorem runM_same {ls ms : List Str} {es fs : List Ad} {i j : Nat} (h1 : ls.map (fun l => eff (ansOf (ln l))) = es.map some) (h2 : ms.map (fun l => eff (ansOf (ln l))) = fs.map some) (h : ∀ e, e ≠ Ad.none → (e ∈ es ↔ e ∈ fs)) (hf : fitsP (puts d0.py es) = true) :
    (runM ms j d0).2 = (0, 0, 0) ∧ (∀ x, x ∈ (runM ls i d0).1.s ↔ x ∈ (runM ms j d0).1.s) ∧ (∀ x, x ∈ (runM ls i d0).1.g ↔ x ∈ (runM ms j d0).1.g) ∧ (∀ x, x ∈ (runM ls i d0).1.h ↔ x ∈ (runM ms j d0).1.h) := by
  have o0 : Once d0.py := ⟨List.nodup_nil, List.nodup_nil, List.nodup_nil, List.nodup_nil⟩
  obtain ⟨m1, m2, m3, m4⟩ := puts_same (p := d0.py) h
  have hin : In (puts d0.py fs) (puts d0.py es) := ⟨fun x hx => (m1 x).2 hx, fun x hx => (m2 x).2 hx, fun x hx => (m3 x).2 hx, fun x hx => m4 ▸ hx⟩
  have hf2 := fits_in hin (o0.puts fs) hf
  obtain ⟨a1, a2⟩ := runM_eff ls es i d0 h1 o0 hf
  obtain ⟨b1, b2⟩ := runM_eff ms fs j d0 h2 o0 hf2
  rw [← a2, ← b2] at m1 m2 m3
  exact ⟨b1, m1, m2, m3⟩
/-- And are the same policy when they are sorted. -/
theorem sorted_same {S T : List St} {G H : List Rl} (hs : ∀ x, x ∈ S ↔ x ∈ T) (hg : ∀ x, x ∈ G ↔ x ∈ H) : PolM.sortSt (PolT.normS S S.length) = PolM.sortSt (PolT.normS T T.length) ∧ PolD.sortRl G = PolD.sortRl H := by
  refine ⟨sort_one SynD.tri_S (fun x y => (SynD7.cmpS_eq x y).1) fun x => ?_, sort_one SynD.tri_R (fun x y => (PolA.cmpR_eq x y).1) hg⟩
  unfold PolT.normS
  simp only [take_all, List.mem_map, hs]
end Go.Proofs.YtkmpbkgmdfeicaaGreat.PolZ
/- The tokens of a line with blanks behind it, wherever in a text it begins (maths). -/
namespace Go.Proofs.YtkmpbkgmdfeicaaGreat.TkLike
set_option linter.unusedVariables false
set_option linter.unusedSimpArgs false
open Go.Proofs Go.Proofs.YtkmpbkgmdfeicaaGreat.Plain
set_option linter.unusedVariables false
set_option linter.unusedSimpArgs false
/-- Kinds and texts, without columns. -/
def kt (L : List Tk) : List (Int × ByteArray) := L.map fun t => (t.kind, t.text)
theorem ext_l (s : ByteArray) (f k : Nat) : (s.extract f k).data.toList = (s.data.toList.drop f).take (k - f) := by
  rw [ByteArray.data_extract, Array.toList_extract]
theorem tw {p : UInt8 → Bool} : ∀ (R Z : List UInt8), (∀ z ∈ Z, p z = false) → (R ++ Z).takeWhile p = R.takeWhile p
  | [], [], h => rfl
  | [], z :: Z, h => by simp [List.takeWhile, h z]
  | r :: R, Z, h => by simp only [List.cons_append, List.takeWhile_cons, tw R Z h]
theorem hp_like (c : UInt8) (R Z : List UInt8) (hz : ∀ z ∈ Z, z = 32) : Lib.hasPrefix (c :: R ++ Z) [60, 45] = Lib.hasPrefix (c :: R) [60, 45] := by
  unfold Lib.hasPrefix
  cases R with
  | nil =>
    cases Z with
    | nil => rfl
    | cons z Z =>
      have := hz z (by simp)
      subst this
      simp [List.isPrefixOf]
  | cons r R => simp [List.isPrefixOf]
theorem at_drop {s : ByteArray} {k : Nat} {c : UInt8} {R : List UInt8} (h : s.data.toList.drop k = c :: R) : ∃ hk : k < s.size, s[k] = c ∧ s.data.toList.drop (k + 1) = R := by
  have hk : k < s.data.toList.length := by
    apply Classical.byContradiction
    intro hn
    rw [List.drop_eq_nil_of_le (by omega)] at h
    exact absurd h (by simp)
  rw [List.drop_eq_getElem_cons hk] at h
  injection h with e1 e2
  have hs : s.data.toList.length = s.size := by simp
  exact ⟨by omega, by rw [← e1]; simp; rfl, e2⟩
theorem end_drop {s : ByteArray} {k : Nat} (h : s.data.toList.drop k = []) : ¬ k < s.size := by
  have hs : s.data.toList.length = s.size := by simp
  have := List.drop_eq_nil_iff.1 h
  omega
theorem blanks : ∀ (Z : List UInt8) (s : ByteArray) (k : Nat) (L : List Tk), (∀ z ∈ Z, z = 32) → s.data.toList.drop k = Z → tkRun s k L = .ok L
  | [], s, k, L, hz, h => tkRun_end (end_drop h)
  | z :: Z, s, k, L, hz, h => by
    obtain ⟨hk, hc, hd⟩ := at_drop h
    have e : tkStep s k hk = .skip := by unfold tkStep; rw [if_pos (by rw [hc]; exact hz z (by simp))]
    rw [tkRun_skip hk e]
    exact blanks Z s (k + 1) L (fun z hz' => hz z (by simp [hz'])) hd
theorem word32 : wordB (32 : UInt8).toNat = false := by decide
theorem wlen_like {s t : ByteArray} {k j : Nat} {R Z : List UInt8} (hz : ∀ z ∈ Z, z = 32) (hs : s.data.toList.drop k = R ++ Z) (ht : t.data.toList.drop j = R) : wlen s k = wlen t j := by
  unfold wlen
  rw [hs, ht, tw R Z (fun z h => by rw [hz z h]; exact word32)]
theorem wlen_at {t : ByteArray} {j : Nat} {R : List UInt8} (ht : t.data.toList.drop j = R) : wlen t j ≤ R.length := by
  unfold wlen
  rw [ht]
  exact (List.takeWhile_sublist _).length_le
theorem step_like {s t : ByteArray} {k j : Nat} {c : UInt8} {R Z : List UInt8} (hz : ∀ z ∈ Z, z = 32) (hs : s.data.toList.drop k = c :: R ++ Z) (ht : t.data.toList.drop j = c :: R) (hk : k < s.size) (hj : j < t.size) : tkStep s k hk = tkStep t j hj := by
  obtain ⟨_, c1, d1⟩ := at_drop (R := R ++ Z) hs
  obtain ⟨_, c2, d2⟩ := at_drop ht
  unfold tkStep
  rw [c1, c2, wlen_like hz d1 d2, hs, ht, hp_like c R Z hz]
theorem step_len {t : ByteArray} {j : Nat} {c : UInt8} {R : List UInt8} (ht : t.data.toList.drop j = c :: R) (hj : j < t.size) {kind : Int} {m : Nat} (h : tkStep t j hj = .tok kind m) : m ≤ R.length := by
  obtain ⟨_, c2, d2⟩ := at_drop ht
  have hw := wlen_at d2
  unfold tkStep at h
  split at h
  · exact absurd h (by simp)
  · split at h
    · split at h
      · exact absurd h (by simp)
      · injection h with _ h; omega
    · split at h
      · split at h
        · exact absurd h (by simp)
        · injection h with _ h; omega
      · split at h
        · injection h with _ h; omega
        · split at h
          · injection h with _ h; omega
          · split at h
            · rename_i hp
              injection h with _ h
              rw [ht] at hp
              cases R with
              | nil => simp [Lib.hasPrefix] at hp
              | cons r R => simp; omega
            · exact absurd h (by simp)
theorem run_like : ∀ (n : Nat) (R Z : List UInt8) (s t : ByteArray) (k j : Nat) (L L' : List Tk), R.length ≤ n → (∀ z ∈ Z, z = 32) → s.data.toList.drop k = R ++ Z → t.data.toList.drop j = R → kt L = kt L' →
    (∃ M M', tkRun s k L = .ok M ∧ tkRun t j L' = .ok M' ∧ kt M = kt M') ∨ (∃ c e c' e', tkRun s k L = .bad c e ∧ tkRun t j L' = .bad c' e')
  | n, [], Z, s, t, k, j, L, L', hn, hz, hs, ht, hL => .inl ⟨L, L', blanks Z s k L hz hs, tkRun_end (end_drop ht), hL⟩
  | 0, c :: R, Z, s, t, k, j, L, L', hn, hz, hs, ht, hL => absurd hn (by simp)
  | n + 1, c :: R, Z, s, t, k, j, L, L', hn, hz, hs, ht, hL => by
    obtain ⟨hk, c1, d1⟩ := at_drop (R := R ++ Z) hs
    obtain ⟨hj, c2, d2⟩ := at_drop ht
    have e := step_like hz hs ht hk hj
    cases h : tkStep t j hj with
    | skip =>
      rw [h] at e
      rw [tkRun_skip hk e, tkRun_skip hj h]
      exact run_like n R Z s t (k + 1) (j + 1) L L' (by simpa using hn) hz d1 d2 hL
    | bad er =>
      rw [h] at e
      exact .inr ⟨_, _, _, _, tkRun_bad hk e, tkRun_bad hj h⟩
    | tok kind m =>
      have hm := step_len ht hj h
      rw [h] at e
      rw [tkRun_tok hk e, tkRun_tok hj h]
      refine run_like n (R.drop m) Z s t (k + m + 1) (j + m + 1) _ _ (by simp at hn ⊢; omega) hz ?_ ?_ ?_
      · have : s.data.toList.drop (k + m + 1) = (s.data.toList.drop (k + 1)).drop m := by rw [List.drop_drop]; congr 1; omega
        rw [this, d1, List.drop_append_of_le_length hm]
      · have : t.data.toList.drop (j + m + 1) = (t.data.toList.drop (j + 1)).drop m := by rw [List.drop_drop]; congr 1; omega
        rw [this, d2]
      · have ex : s.extract k (k + (m + 1)) = t.extract j (j + (m + 1)) := by
          have e1 := ext_l s k (k + (m + 1))
          have e2 := ext_l t j (j + (m + 1))
          rw [hs, show k + (m + 1) - k = m + 1 by omega, List.take_append_of_le_length (by simp; omega)] at e1
          rw [ht, show j + (m + 1) - j = m + 1 by omega] at e2
          have e3 := e1.trans e2.symm
          generalize s.extract k (k + (m + 1)) = A at *
          generalize t.extract j (j + (m + 1)) = B at *
          obtain ⟨⟨a⟩⟩ := A
          obtain ⟨⟨b⟩⟩ := B
          simp at e3
          rw [e3]
        unfold kt at hL ⊢
        rw [List.map_append, List.map_append, hL, ex]
        rfl
end Go.Proofs.YtkmpbkgmdfeicaaGreat.TkLike
/- What a line puts in does not hang on where its tokens stand (maths). -/
namespace Go.Proofs.YtkmpbkgmdfeicaaGreat.PolTe
set_option linter.unusedVariables false
set_option linter.unusedSimpArgs false
open Go.RowKit Go.Sort Go.Lib Go.Proofs Go.Proofs.YtkmpbkgmdfeicaaGreat.Plain Go.Proofs.YtkmpbkgmdfeicaaGreat.SynP Go.Proofs.YtkmpbkgmdfeicaaGreat.TabP Go.Proofs.YtkmpbkgmdfeicaaGreat.Scan3 Go.Proofs.YtkmpbkgmdfeicaaGreat.SynQ Go.Proofs.YtkmpbkgmdfeicaaGreat.SynY Go.Proofs.YtkmpbkgmdfeicaaGreat.QryP Go.Proofs.YtkmpbkgmdfeicaaGreat.Qry4 Go.Proofs.YtkmpbkgmdfeicaaGreat.Qry5 Go.Proofs.YtkmpbkgmdfeicaaGreat.PolP Go.Proofs.YtkmpbkgmdfeicaaGreat.PolR Go.Proofs.YtkmpbkgmdfeicaaGreat.PolU Go.Proofs.YtkmpbkgmdfeicaaGreat.PolY Go.Proofs.YtkmpbkgmdfeicaaGreat.PolZ Go.Proofs.YtkmpbkgmdfeicaaGreat.TkLike
set_option linter.unusedVariables false
set_option linter.unusedSimpArgs false
theorem text_kt {L M : List Tk} (h : kt L = kt M) (k : Nat) : (L[k]?).map Tk.text = (M[k]?).map Tk.text := by
  have := congrArg (fun l => (l[k]?).map (·.2)) h
  simpa [kt, List.getElem?_map, Function.comp_def] using this
theorem kinds_kt {L M : List Tk} (h : kt L = kt M) : L.map Tk.kind = M.map Tk.kind := by
  have := congrArg (List.map (·.1)) h
  simpa [kt, Function.comp_def] using this
theorem len_kt {L M : List Tk} (h : kt L = kt M) : L.length = M.length := by
  have := congrArg List.length h
  simpa [kt] using this
theorem textB_kt {L M : List Tk} (h : kt L = kt M) (k : Nat) : QryB.textAt L k = QryB.textAt M k := by
  unfold QryB.textAt; rw [text_kt h k]
theorem textS_kt {L M : List Tk} (h : kt L = kt M) (k : Nat) : SynQ.textAt L k = SynQ.textAt M k := by
  unfold SynQ.textAt; rw [text_kt h k]
theorem agree_kt : ∀ {L M : List Tk} (F : List Ft), kt L = kt M → agreeF L F = agreeF M F
  | [], [], F, h => rfl
  | [], m :: M, F, h => by simp [kt] at h
  | l :: L, [], F, h => by simp [kt] at h
  | l :: L, m :: M, [], h => rfl
  | l :: L, m :: M, f :: F, h => by
    simp only [kt, List.map_cons, List.cons.injEq, Prod.mk.injEq] at h
    obtain ⟨⟨h1, h2⟩, h3⟩ := h
    have ih := agree_kt (L := L) (M := M) F h3
    have hf : f.fits l = f.fits m := by cases f <;> simp only [Ft.fits, h1, h2]
    unfold agreeF
    rw [ih, hf]
theorem leads_kt {L M : List Tk} (x : ByteArray) (h : kt L = kt M) : leads L x = leads M x := by
  cases L with
  | nil => cases M with
    | nil => rfl
    | cons m M => simp [kt] at h
  | cons l L => cases M with
    | nil => simp [kt] at h
    | cons m M =>
      simp only [kt, List.map_cons, List.cons.injEq, Prod.mk.injEq] at h
      unfold leads
      simp only [h.1.1, h.1.2]
theorem stmt_kt {L M : List Tk} (k : Nat) (h : kt L = kt M) : stmtOf k L = stmtOf k M := by
  unfold stmtOf
  simp only [textS_kt h]
theorem best_kt {L M : List Tk} (h : kt L = kt M) : ∀ k, bestOf L k = bestOf M k
  | 0 => rfl
  | k + 1 => by unfold bestOf; rw [best_kt h k]; unfold kindsOf; rw [kinds_kt h]
theorem parse_kt {L M : List Tk} (h : kt L = kt M) : (parseL L).1 = (parseL M).1 ∧ (parseL L).2.2 = (parseL M).2.2 := by
  have hk : kindsOf L = kindsOf M := kinds_kt h
  unfold parseL
  rw [hk, stmt_kt 1 h, stmt_kt 2 h, stmt_kt 3 h, stmt_kt 4 h, best_kt h, len_kt h]
  split
  · exact ⟨rfl, rfl⟩
  · split
    · exact ⟨rfl, rfl⟩
    · split
      · exact ⟨rfl, rfl⟩
      · split
        · exact ⟨rfl, rfl⟩
        · split <;> exact ⟨rfl, rfl⟩
theorem eff_kt {L M : List Tk} (h : kt L = kt M) : eff (.ok L) = eff (.ok M) := by
  cases L with
  | nil => cases M with
    | nil => rfl
    | cons m M => simp [kt] at h
  | cons l L => cases M with
    | nil => simp [kt] at h
    | cons m M =>
      obtain ⟨p1, p2⟩ := parse_kt h
      simp only [eff, parseA]
      rw [leads_kt growT h, leads_kt shrinkT h, agree_kt shapeG h, len_kt h, textB_kt h, textB_kt h, p1]
      simp only [p2]
      congr
theorem take_no : ∀ (X Y : List UInt8), (∀ c ∈ X, c ≠ 35) → (X ++ 35 :: Y).takeWhile (fun c => c != 35) = X
  | [], Y, h => by simp
  | x :: X, Y, h => by
    have hx : (x != 35) = true := by simpa using h x (by simp)
    rw [List.cons_append, List.takeWhile_cons, hx, if_pos rfl, take_no X Y (fun c hc => h c (by simp [hc]))]
theorem take_none : ∀ (X : List UInt8), (∀ c ∈ X, c ≠ 35) → X.takeWhile (fun c => c != 35) = X
  | [], h => rfl
  | x :: X, h => by
    have hx : (x != 35) = true := by simpa using h x (by simp)
    rw [List.takeWhile_cons, hx, if_pos rfl, take_none X (fun c hc => h c (by simp [hc]))]
theorem skip_at {s : ByteArray} {k : Nat} {R : List UInt8} (h : s.data.toList.drop k = 32 :: R) : ∃ hk : k < s.size, tkStep s k hk = .skip := by
  obtain ⟨hk, hc, _⟩ := at_drop h
  exact ⟨hk, by unfold tkStep; rw [if_pos hc]⟩
/-- Two blanks ahead of a line and a comment behind it change nothing of what it puts in. -/
theorem eff_dressed (X : List UInt8) (hx : ∀ c ∈ X, c ≠ 35) (hl : X.length ≤ 190) : eff (ansOf (ln ([32, 32] ++ X ++ [32, 35, 32, 120]))) = eff (ansOf (ln X)) := by
  have s1 : (ln ([32, 32] ++ X ++ [32, 35, 32, 120])).size = X.length + 6 := by simp [ln, ByteArray.size]
  have s2 : (ln X).size = X.length := by simp [ln, ByteArray.size]
  have b1 : bare (ln ([32, 32] ++ X ++ [32, 35, 32, 120])) = ⟨([32, 32] ++ X ++ [32]).toArray⟩ := by
    unfold bare ln
    have e : ([32, 32] ++ X ++ [32, 35, 32, 120] : List UInt8) = ([32, 32] ++ X ++ [32]) ++ 35 :: [32, 120] := by simp
    rw [e, take_no]
    intro c hc
    simp at hc
    rcases hc with rfl | hc | rfl
    · decide
    · exact hx c hc
    · decide
  have b2 : bare (ln X) = ln X := by
    unfold bare ln
    rw [take_none X hx]
  unfold ansOf
  rw [if_neg (by omega), if_neg (by omega), b1, b2]
  obtain ⟨k0, e0⟩ := skip_at (s := ⟨([32, 32] ++ X ++ [32]).toArray⟩) (k := 0) (R := 32 :: (X ++ [32])) (by simp)
  obtain ⟨k1, e1⟩ := skip_at (s := ⟨([32, 32] ++ X ++ [32]).toArray⟩) (k := 1) (R := X ++ [32]) (by simp)
  rw [tkRun_skip k0 e0, tkRun_skip k1 e1]
  rcases run_like X.length X [32] ⟨([32, 32] ++ X ++ [32]).toArray⟩ (ln X) 2 0 [] [] (Nat.le_refl _) (by simp) (by simp) (by simp [ln]) rfl with ⟨M, M', h1, h2, h3⟩ | ⟨c, e, c', e', h1, h2⟩
  · rw [h1, h2]; exact eff_kt h3
  · rw [h1, h2]; rfl
/-- An empty line puts in nothing. -/
theorem eff_empty : eff (ansOf (ln [])) = some .none := by
  have : ansOf (ln []) = .ok [] := by
    unfold ansOf
    rw [if_neg (by decide)]
    exact tkRun_end (by decide)
  rw [this]
  rfl
end Go.Proofs.YtkmpbkgmdfeicaaGreat.PolTe
/- A text whose lines are turned about, dressed and doubled: its lines, its length, and what they put in (maths). -/
namespace Go.Proofs.YtkmpbkgmdfeicaaGreat.PolTf
set_option linter.unusedVariables false
set_option linter.unusedSimpArgs false
open Go.RowKit Go.Sort Go.Lib Go.Proofs Go.Proofs.YtkmpbkgmdfeicaaGreat.Plain Go.Proofs.YtkmpbkgmdfeicaaGreat.SynP Go.Proofs.YtkmpbkgmdfeicaaGreat.TabP Go.Proofs.YtkmpbkgmdfeicaaGreat.Scan3 Go.Proofs.YtkmpbkgmdfeicaaGreat.Lines1 Go.Proofs.YtkmpbkgmdfeicaaGreat.PolI Go.Proofs.YtkmpbkgmdfeicaaGreat.PolR Go.Proofs.YtkmpbkgmdfeicaaGreat.PolU Go.Proofs.YtkmpbkgmdfeicaaGreat.PolY Go.Proofs.YtkmpbkgmdfeicaaGreat.PolZ Go.Proofs.YtkmpbkgmdfeicaaGreat.PolTe
set_option linter.unusedVariables false
set_option linter.unusedSimpArgs false
/-- Lines, each with its end. -/
def joinN (ls : List Str) : List UInt8 := (ls.map (· ++ [10])).flatten
theorem joinN_cons (l : Str) (ls : List Str) : joinN (l :: ls) = l ++ [10] ++ joinN ls := rfl
theorem joinN_app (a b : List Str) : joinN (a ++ b) = joinN a ++ joinN b := by unfold joinN; rw [List.map_append, List.flatten_append]
theorem lnA_line : ∀ (l acc r : List UInt8), (∀ c ∈ l, c ≠ 10) → lnA acc (l ++ 10 :: r) = (acc ++ l) :: lnA [] r
  | [], acc, r, h => by
    rw [List.nil_append, List.append_nil]
    conv => lhs; unfold lnA
    rw [if_pos rfl]
  | c :: l, acc, r, h => by
    rw [List.cons_append]
    conv => lhs; unfold lnA
    rw [if_neg (h c (by simp)), lnA_line l (acc ++ [c]) r (fun c hc => h c (by simp [hc]))]
    simp
theorem lines_join : ∀ (ls : List Str), (∀ l ∈ ls, ∀ c ∈ l, c ≠ 10) → lnA [] (joinN ls) = ls
  | [], h => rfl
  | l :: ls, h => by
    have e : joinN (l :: ls) = l ++ 10 :: joinN ls := by rw [joinN_cons]; simp
    rw [e, lnA_line l [] _ (h l (by simp)), lines_join ls (fun x hx => h x (by simp [hx]))]
    rfl
def dressed (x : Str) : Str := [32, 32] ++ x ++ [32, 35, 32, 120]
/-- The text that the law makes of lines, and its lines. -/
def turn : List Str → List UInt8 → List UInt8
  | [], t => t
  | x :: ls, t => turn ls ([32, 32] ++ x ++ [32, 35, 32, 120, 10, 10] ++ t ++ x ++ [10])
def turnL : List Str → List Str → List Str
  | [], T => T
  | x :: ls, T => turnL ls (dressed x :: [] :: (T ++ [x]))
def turnE : List Ad → List Ad → List Ad
  | [], E => E
  | e :: es, E => turnE es (e :: .none :: (E ++ [e]))
theorem turn_lines : ∀ (ls T : List Str), turn ls (joinN T) = joinN (turnL ls T)
  | [], T => rfl
  | x :: ls, T => by
    unfold turn turnL
    rw [← turn_lines ls]
    congr 1
    rw [joinN_cons, joinN_cons, joinN_app, joinN_cons]
    simp [dressed, joinN]
theorem turn_len : ∀ (ls : List Str) (t : List UInt8), (turn ls t).length = t.length + 2 * (joinN ls).length + 7 * ls.length
  | [], t => by simp [turn, joinN]
  | x :: ls, t => by
    unfold turn
    rw [turn_len ls, joinN_cons]
    simp only [List.length_append, List.length_cons, List.length_nil]
    omega
theorem turn_no : ∀ (ls T : List Str), (∀ l ∈ ls, ∀ c ∈ l, c ≠ 10) → (∀ l ∈ T, ∀ c ∈ l, c ≠ 10) → ∀ l ∈ turnL ls T, ∀ c ∈ l, c ≠ 10
  | [], T, h1, h2 => h2
  | x :: ls, T, h1, h2 => by
    unfold turnL
    refine turn_no ls _ (fun l hl => h1 l (by simp [hl])) fun l hl c hc => ?_
    simp at hl
    rcases hl with rfl | rfl | hl | rfl
    · unfold dressed at hc
      simp at hc
      rcases hc with rfl | hc | rfl | rfl | rfl | rfl
      · decide
      · exact h1 x (by simp) c hc
      all_goals decide
    · simp at hc
    · exact h2 l hl c hc
    · exact h1 l (by simp) c hc
def effL (l : Str) : Option Ad := eff (ansOf (ln l))
theorem turn_eff : ∀ (ls T : List Str) (es E : List Ad), (∀ l ∈ ls, (∀ c ∈ l, c ≠ 35) ∧ l.length ≤ 190) → ls.map effL = es.map some → T.map effL = E.map some → (turnL ls T).map effL = (turnE es E).map some
  | [], T, [], E, h, h1, h2 => h2
  | [], T, e :: es, E, h, h1, h2 => by simp at h1
  | x :: ls, T, [], E, h, h1, h2 => by simp at h1
  | x :: ls, T, e :: es, E, h, h1, h2 => by
    simp only [List.map_cons, List.cons.injEq] at h1
    unfold turnL turnE
    refine turn_eff ls _ es _ (fun l hl => h l (by simp [hl])) h1.2 ?_
    have hd : effL (dressed x) = some e := (eff_dressed x (h x (by simp)).1 (h x (by simp)).2).trans h1.1
    have he : effL [] = some .none := eff_empty
    rw [List.map_cons, List.map_cons, List.map_append, h2, hd, he]
    simp [h1.1]
theorem turn_mem : ∀ (es E : List Ad) (e : Ad), e ≠ .none → (e ∈ turnE es E ↔ e ∈ es ∨ e ∈ E)
  | [], E, e, h => by simp [turnE]
  | x :: es, E, e, h => by
    unfold turnE
    rw [turn_mem es _ e h]
    simp [h]
    constructor
    · rintro (h1 | h1 | h1 | h1) <;> simp [h1]
    · rintro ((h1 | h1) | h1) <;> simp [h1]
/-- What the turned text comes to is what the text comes to, as sets. -/
theorem turned {ls : List Str} {es : List Ad} (h10 : ∀ l ∈ ls, ∀ c ∈ l, c ≠ 10) (h35 : ∀ l ∈ ls, (∀ c ∈ l, c ≠ 35) ∧ l.length ≤ 190) (he : ls.map effL = es.map some) (hf : fitsP (puts d0.py es) = true) :
    (runM (linesOf ⟨(turn ls []).toArray⟩) 0 d0).2 = (0, 0, 0) ∧ (∀ x, x ∈ (runM (linesOf ⟨(joinN ls).toArray⟩) 0 d0).1.s ↔ x ∈ (runM (linesOf ⟨(turn ls []).toArray⟩) 0 d0).1.s) ∧ (∀ x, x ∈ (runM (linesOf ⟨(joinN ls).toArray⟩) 0 d0).1.g ↔ x ∈ (runM (linesOf ⟨(turn ls []).toArray⟩) 0 d0).1.g) ∧ (∀ x, x ∈ (runM (linesOf ⟨(joinN ls).toArray⟩) 0 d0).1.h ↔ x ∈ (runM (linesOf ⟨(turn ls []).toArray⟩) 0 d0).1.h) := by
  have e1 : linesOf ⟨(joinN ls).toArray⟩ = ls := by unfold linesOf; exact lines_join ls h10
  have e2 : linesOf ⟨(turn ls []).toArray⟩ = turnL ls [] := by
    unfold linesOf
    have := turn_lines ls []
    rw [show joinN [] = [] from rfl] at this
    rw [this]
    exact lines_join _ (turn_no ls [] h10 (fun l hl => by simp at hl))
  rw [e1, e2]
  exact runM_same he (turn_eff ls [] es [] h35 he rfl) (fun e hn => by rw [turn_mem es [] e hn]; simp) hf
end Go.Proofs.YtkmpbkgmdfeicaaGreat.PolTf
/- What the lines of a printed policy put in (maths). -/
namespace Go.Proofs.YtkmpbkgmdfeicaaGreat.PolTg
set_option linter.unusedVariables false
set_option linter.unusedSimpArgs false
open Go.RowKit Go.Sort Go.Lib Go.Proofs Go.Proofs.YtkmpbkgmdfeicaaGreat.Plain Go.Proofs.YtkmpbkgmdfeicaaGreat.SynP Go.Proofs.YtkmpbkgmdfeicaaGreat.TabP Go.Proofs.YtkmpbkgmdfeicaaGreat.Scan3 Go.Proofs.YtkmpbkgmdfeicaaGreat.Lines1 Go.Proofs.YtkmpbkgmdfeicaaGreat.SynL Go.Proofs.YtkmpbkgmdfeicaaGreat.SynQ Go.Proofs.YtkmpbkgmdfeicaaGreat.SynW Go.Proofs.YtkmpbkgmdfeicaaGreat.SynY Go.Proofs.YtkmpbkgmdfeicaaGreat.SynZ Go.Proofs.YtkmpbkgmdfeicaaGreat.QryL Go.Proofs.YtkmpbkgmdfeicaaGreat.Qry5 Go.Proofs.YtkmpbkgmdfeicaaGreat.PolI Go.Proofs.YtkmpbkgmdfeicaaGreat.PolP Go.Proofs.YtkmpbkgmdfeicaaGreat.PolR Go.Proofs.YtkmpbkgmdfeicaaGreat.PolU Go.Proofs.YtkmpbkgmdfeicaaGreat.PolY Go.Proofs.YtkmpbkgmdfeicaaGreat.PolZ Go.Proofs.YtkmpbkgmdfeicaaGreat.PolTe Go.Proofs.YtkmpbkgmdfeicaaGreat.PolTf
set_option linter.unusedVariables false
set_option linter.unusedSimpArgs false
theorem ln_bs (x : ByteArray) : ln (bs x) = x := by
  obtain ⟨⟨l⟩⟩ := x
  rfl
theorem kinds_one {L : List Tk} {s : St} (h : parseL L = (s, 0, 0)) : kindsOf L = shapeK 1 ∨ kindsOf L = shapeK 2 ∨ kindsOf L = shapeK 3 ∨ kindsOf L = shapeK 4 := by
  apply Classical.byContradiction
  intro hn
  simp only [not_or] at hn
  unfold parseL at h
  rw [if_neg hn.1, if_neg hn.2.1, if_neg hn.2.2.1, if_neg hn.2.2.2] at h
  split at h
  · have : (2 : Int) = 0 := congrArg (fun x => x.2.2) h
    omega
  · have : (3 : Int) = 0 := congrArg (fun x => x.2.2) h
    omega
theorem lead_one {L : List Tk} (x : ByteArray) {s : St} (h : parseL L = (s, 0, 0)) : leads L x = false := by
  have hk := kinds_one h
  cases L with
  | nil => rfl
  | cons t L =>
    have ht : t.kind = 1 := by
      unfold kindsOf shapeK at hk
      rcases hk with h | h | h | h <;> (injection h)
    simp only [leads, ht]
    rfl
theorem eff_stmt {s : St} (h : s.right = true) : effL (bs (line s)) = some (.stmt s) := by
  obtain ⟨L, h1, h2⟩ := parse_line h
  unfold effL
  rw [ln_bs, h1]
  cases L with
  | nil =>
    rcases kinds_one h2 with h | h | h | h <;> exact absurd h (by decide)
  | cons t L =>
    have e1 : (parseA (.ok (t :: L))).2.2 = 0 := by show (parseL _).2.2 = 0; rw [h2]
    have e2 : (parseA (.ok (t :: L))).1 = s := by show (parseL _).1 = s; rw [h2]
    simp only [eff]
    rw [if_neg (by rw [lead_one growT h2]; decide), if_neg (by rw [lead_one shrinkT h2]; decide), if_pos e1, e2]
/-- Tokens of a word and a role behind it. -/
theorem role_toks (w : ByteArray) (hw : named smallB w.data.toList = true) (h8 : w.size ≤ 8) (r : Rl) (hr : r.ok = true) : ansOf (ln (bs w ++ [32] ++ bs (textR r))) = .ok ([⟨2, w, 1⟩] ++ roleTk r (w.size + 1)) := by
  have hs : (ln (bs w ++ [32] ++ bs (textR r))).data.toList = bs w ++ 32 :: (bs (textR r) ++ []) := by simp [ln]
  have hr' := hr
  unfold Rl.ok at hr'
  rw [Bool.and_eq_true] at hr'
  have n1 : r.owner.size ≤ 8 := by
    obtain ⟨c, l, e, _, _, _, h8, hs⟩ := named_cons hr'.1
    omega
  have n2 : r.name.size ≤ 8 := by
    obtain ⟨c, l, e, _, _, _, h8, hs⟩ := named_cons hr'.2
    omega
  have hsz : (ln (bs w ++ [32] ++ bs (textR r))).size ≤ 200 := by
    have e1 : (ln (bs w ++ [32] ++ bs (textR r))).size = (bs w ++ [32] ++ bs (textR r)).length := by simp [ln, ByteArray.size]
    have e2 : (bs w).length = w.size := by simp [bs]
    have e3 : (bs (textR r)).length = (textR r).size := by simp [bs]
    have e4 := textR_size r
    rw [e1, List.length_append, List.length_append, e2, e3, e4]
    simp
    omega
  have hb : bare (ln (bs w ++ [32] ++ bs (textR r))) = ln (bs w ++ [32] ++ bs (textR r)) := by
    refine Scan2.bare_all ?_
    rw [hs]
    refine take_none _ fun c hc => ?_
    simp only [List.mem_append, List.mem_cons, List.append_nil] at hc
    rcases hc with hc | rfl | hc
    · exact named_ne35 hw c hc
    · decide
    · unfold bs at hc
      rw [textR_list] at hc
      simp only [List.mem_append, List.mem_cons] at hc
      rcases hc with hc | rfl | hc
      · exact named_ne35 hr'.1 c hc
      · decide
      · exact named_ne35 hr'.2 c hc
  unfold ansOf
  rw [if_neg (by omega), hb]
  obtain ⟨a1, b1⟩ := run_small (s := ln (bs w ++ [32] ++ bs (textR r))) (k := 0) (L := []) (w := w) (rest := 32 :: (bs (textR r) ++ [])) hs hw (stops_sp _)
  obtain ⟨a2, b2⟩ := run_sp (L := [] ++ [⟨2, w, 0 + 1⟩]) b1
  obtain ⟨a3, b3⟩ := run_role (L := [] ++ [⟨2, w, 0 + 1⟩]) (rest := []) b2 hr stops_nil
  rw [a1, a2, a3, run_done b3]
  simp
theorem eff_grow {r : Rl} (h : r.ok = true) : effL (bs growT ++ [32] ++ bs (textR r)) = some (.grow r) := by
  unfold effL
  rw [role_toks growT (by decide) (by decide) r h]
  rfl
theorem eff_shrink {r : Rl} (h : r.ok = true) : effL (bs shrinkT ++ [32] ++ bs (textR r)) = some (.shrink r) := by
  unfold effL
  rw [role_toks shrinkT (by decide) (by decide) r h]
  rfl
end Go.Proofs.YtkmpbkgmdfeicaaGreat.PolTg
/- A printed policy, line by line, and turned about (maths). -/
namespace Go.Proofs.YtkmpbkgmdfeicaaGreat.PolTh
set_option linter.unusedVariables false
set_option linter.unusedSimpArgs false
open Go.RowKit Go.Sort Go.Lib Go.Proofs Go.Proofs.YtkmpbkgmdfeicaaGreat.Plain Go.Proofs.YtkmpbkgmdfeicaaGreat.SynP Go.Proofs.YtkmpbkgmdfeicaaGreat.TabP Go.Proofs.YtkmpbkgmdfeicaaGreat.Scan3 Go.Proofs.YtkmpbkgmdfeicaaGreat.Lines1 Go.Proofs.YtkmpbkgmdfeicaaGreat.SynL Go.Proofs.YtkmpbkgmdfeicaaGreat.SynQ Go.Proofs.YtkmpbkgmdfeicaaGreat.SynW Go.Proofs.YtkmpbkgmdfeicaaGreat.SynY Go.Proofs.YtkmpbkgmdfeicaaGreat.SynZ Go.Proofs.YtkmpbkgmdfeicaaGreat.QryL Go.Proofs.YtkmpbkgmdfeicaaGreat.PolE Go.Proofs.YtkmpbkgmdfeicaaGreat.PolI Go.Proofs.YtkmpbkgmdfeicaaGreat.PolP Go.Proofs.YtkmpbkgmdfeicaaGreat.PolR Go.Proofs.YtkmpbkgmdfeicaaGreat.PolU Go.Proofs.YtkmpbkgmdfeicaaGreat.PolY Go.Proofs.YtkmpbkgmdfeicaaGreat.PolZ Go.Proofs.YtkmpbkgmdfeicaaGreat.PolTe Go.Proofs.YtkmpbkgmdfeicaaGreat.PolTf Go.Proofs.YtkmpbkgmdfeicaaGreat.PolTg
set_option linter.unusedVariables false
set_option linter.unusedSimpArgs false
/-- No end of a line, no comment, and not long. -/
def Fair (X : Str) (n : Nat) : Prop := (∀ c ∈ X, c ≠ 10 ∧ c ≠ 35) ∧ X.length ≤ n
theorem Fair.app {X Y : Str} {n m : Nat} (h : Fair X n) (k : Fair Y m) : Fair (X ++ Y) (n + m) := by
  refine ⟨fun c hc => ?_, by rw [List.length_append]; have := h.2; have := k.2; omega⟩
  rcases List.mem_append.1 hc with hc | hc
  · exact h.1 c hc
  · exact k.1 c hc
theorem Fair.mono {X : Str} {n m : Nat} (h : Fair X n) (hm : n ≤ m) : Fair X m := ⟨h.1, Nat.le_trans h.2 hm⟩
theorem bs_app (a b : ByteArray) : bs (a ++ b) = bs a ++ bs b := by unfold bs; rw [ByteArray.data_append, Array.toList_append]
theorem word_fair {c : UInt8} (h : wordB c.toNat = true) : c ≠ 10 ∧ c ≠ 35 :=
  ⟨by rintro rfl; exact absurd h (by decide), by rintro rfl; exact absurd h (by decide)⟩
theorem fair_word {f : Int → Bool} {w : ByteArray} (h : named f w.data.toList = true) : Fair (bs w) 8 := by
  obtain ⟨c, l, e, _, hw, hl, h8, hs⟩ := named_cons h
  refine ⟨fun x hx => ?_, by have e2 : (bs w).length = w.size := by simp [bs]
                             omega⟩
  unfold bs at hx
  rw [e] at hx
  rcases List.mem_cons.1 hx with rfl | hx
  · exact word_fair hw
  · exact word_fair (List.all_eq_true.1 hl x hx)
theorem fair_role {r : Rl} (h : r.ok = true) : Fair (bs (textR r)) 17 := by
  unfold Rl.ok at h
  rw [Bool.and_eq_true] at h
  unfold textR
  rw [bs_app, bs_app]
  have hd : Fair (bs ⟨#[46]⟩) 1 := ⟨fun c hc => by simp [bs] at hc; subst hc; decide, by decide⟩
  exact (((fair_word h.1).app hd).app (fair_word h.2)).mono (by omega)
theorem fair_arr : Fair (bs arr) 4 := ⟨fun c hc => by
  simp [bs, arr] at hc
  rcases hc with rfl | rfl | rfl | rfl <;> decide, by decide⟩
theorem fair_amp : Fair (bs ⟨#[32, 38, 32]⟩) 3 := ⟨fun c hc => by
  simp [bs] at hc
  rcases hc with rfl | rfl | rfl <;> decide, by decide⟩
theorem fair_body {s : St} (h : s.right = true) : Fair (bs (body s)) 60 := by
  obtain ⟨_, hc⟩ := right_all h
  unfold body
  have hd : Fair (bs ⟨#[46]⟩) 1 := ⟨fun c hc => by simp [bs] at hc; subst hc; decide, by decide⟩
  rcases hc with ⟨e, hw, _⟩ | ⟨e, _, ha, _⟩ | ⟨e, _, ha, _, hv⟩ | ⟨e, _, ha, hb, _⟩
  · rw [if_pos e]
    exact (fair_word hw).mono (by omega)
  · rw [if_neg (by omega), if_pos e]
    exact (fair_role ha).mono (by omega)
  · rw [if_neg (by omega), if_neg (by omega), if_pos e, bs_app, bs_app]
    exact (((fair_role ha).app hd).app (fair_word hv)).mono (by omega)
  · rw [if_neg (by omega), if_neg (by omega), if_neg (by omega), bs_app, bs_app]
    exact (((fair_role ha).app fair_amp).app (fair_role hb)).mono (by omega)
theorem fair_line {s : St} (h : s.right = true) : Fair (bs (line s)) 190 := by
  rw [line_right h, bs_app, bs_app]
  exact (((fair_role (right_all h).1).app fair_arr).app (fair_body h)).mono (by omega)
theorem fair_lead (w : ByteArray) (hw : named smallB w.data.toList = true) {r : Rl} (h : r.ok = true) : Fair (bs w ++ [32] ++ bs (textR r)) 190 := by
  have hd : Fair [32] 1 := ⟨fun c hc => by simp at hc; subst hc; decide, by decide⟩
  exact (((fair_word hw).app hd).app (fair_role h)).mono (by omega)
/-- The lines of a printed policy, and what they put in. -/
def linesP (S : List St) (G H : List Rl) : List Str := S.map (fun s => bs (line s)) ++ G.map (fun r => bs growT ++ [32] ++ bs (textR r)) ++ H.map (fun r => bs shrinkT ++ [32] ++ bs (textR r))
def adsP (S : List St) (G H : List Rl) : List Ad := S.map .stmt ++ G.map .grow ++ H.map .shrink
theorem lines_fair {S : List St} {G H : List Rl} (hS : ∀ s ∈ S, s.right = true) (hG : ∀ r ∈ G, r.ok = true) (hH : ∀ r ∈ H, r.ok = true) : ∀ l ∈ linesP S G H, Fair l 190 := fun l hl => by
  unfold linesP at hl
  simp only [List.mem_append, List.mem_map] at hl
  rcases hl with (⟨s, hs, rfl⟩ | ⟨r, hr, rfl⟩) | ⟨r, hr, rfl⟩
  · exact fair_line (hS s hs)
  · exact fair_lead growT (by decide) (hG r hr)
  · exact fair_lead shrinkT (by decide) (hH r hr)
theorem lines_eff {S : List St} {G H : List Rl} (hS : ∀ s ∈ S, s.right = true) (hG : ∀ r ∈ G, r.ok = true) (hH : ∀ r ∈ H, r.ok = true) : (linesP S G H).map effL = (adsP S G H).map some := by
  unfold linesP adsP
  simp only [List.map_append, List.map_map]
  congr 1
  · congr 1
    · exact List.map_congr_left fun s hs => eff_stmt (hS s hs)
    · exact List.map_congr_left fun r hr => eff_grow (hG r hr)
  · exact List.map_congr_left fun r hr => eff_shrink (hH r hr)
/-- What the lines put in are the policy's own rows. -/
theorem ads_rows (S : List St) (G H : List Rl) : (∀ x, x ∈ (puts d0.py (adsP S G H)).stmts ↔ x ∈ S) ∧ (∀ x, x ∈ (puts d0.py (adsP S G H)).grow ↔ x ∈ G) ∧ (∀ x, x ∈ (puts d0.py (adsP S G H)).shrink ↔ x ∈ H) ∧ (puts d0.py (adsP S G H)).asks = [] := by
  obtain ⟨h1, h2, h3, h4⟩ := puts_mem (adsP S G H) d0.py
  refine ⟨fun x => ?_, fun x => ?_, fun x => ?_, h4⟩
  · rw [h1]; simp [adsP, d0, Dr.py]
  · rw [h2]; simp [adsP, d0, Dr.py]
  · rw [h3]; simp [adsP, d0, Dr.py]
theorem once0 : Once d0.py := ⟨List.nodup_nil, List.nodup_nil, List.nodup_nil, List.nodup_nil⟩
/-- The turned text of a right policy comes to the policy's own rows. -/
theorem turned_rows {S : List St} {G H : List Rl} (hS : ∀ s ∈ S, s.right = true) (hG : ∀ r ∈ G, r.ok = true) (hH : ∀ r ∈ H, r.ok = true) (hf : fitsP ⟨S, G, H, []⟩ = true) :
    (runM (linesOf ⟨(turn (linesP S G H) []).toArray⟩) 0 d0).2 = (0, 0, 0) ∧ (∀ x, x ∈ (runM (linesOf ⟨(turn (linesP S G H) []).toArray⟩) 0 d0).1.s ↔ x ∈ S) ∧ (∀ x, x ∈ (runM (linesOf ⟨(turn (linesP S G H) []).toArray⟩) 0 d0).1.g ↔ x ∈ G) ∧ (∀ x, x ∈ (runM (linesOf ⟨(turn (linesP S G H) []).toArray⟩) 0 d0).1.h ↔ x ∈ H) := by
  obtain ⟨r1, r2, r3, r4⟩ := ads_rows S G H
  have hf2 : fitsP (puts d0.py (adsP S G H)) = true := fits_in (q := ⟨S, G, H, []⟩) ⟨fun x h => (r1 x).1 h, fun x h => (r2 x).1 h, fun x h => (r3 x).1 h, fun x h => r4 ▸ h⟩ (once0.puts _) hf
  have hfair := lines_fair hS hG hH
  have h10 : ∀ l ∈ linesP S G H, ∀ c ∈ l, c ≠ 10 := fun l hl c hc => ((hfair l hl).1 c hc).1
  have he := lines_eff hS hG hH
  obtain ⟨t1, t2, t3, t4⟩ := turned h10 (fun l hl => ⟨fun c hc => ((hfair l hl).1 c hc).2, (hfair l hl).2⟩) he hf2
  have e1 : linesOf ⟨(joinN (linesP S G H)).toArray⟩ = linesP S G H := by unfold linesOf; exact lines_join _ h10
  obtain ⟨_, a2⟩ := runM_eff (linesP S G H) (adsP S G H) 0 d0 he once0 hf2
  rw [← a2] at r1 r2 r3
  rw [e1] at t2 t3 t4
  exact ⟨t1, fun x => (t2 x).symm.trans (r1 x), fun x => (t3 x).symm.trans (r2 x), fun x => (t4 x).symm.trans (r3 x)⟩
end Go.Proofs.YtkmpbkgmdfeicaaGreat.PolTh
/- Lines that are right keep the bounds that Parse's contract wants (maths). -/
namespace Go.Proofs.YtkmpbkgmdfeicaaGreat.PolTi
set_option linter.unusedVariables false
set_option linter.unusedSimpArgs false
open Go.RowKit Go.Sort Go.Lib Go.Proofs Go.Proofs.YtkmpbkgmdfeicaaGreat.Plain Go.Proofs.YtkmpbkgmdfeicaaGreat.SynP Go.Proofs.YtkmpbkgmdfeicaaGreat.TabP Go.Proofs.YtkmpbkgmdfeicaaGreat.Scan3 Go.Proofs.YtkmpbkgmdfeicaaGreat.Lines1 Go.Proofs.YtkmpbkgmdfeicaaGreat.SynL Go.Proofs.YtkmpbkgmdfeicaaGreat.SynQ Go.Proofs.YtkmpbkgmdfeicaaGreat.SynY Go.Proofs.YtkmpbkgmdfeicaaGreat.QryX Go.Proofs.YtkmpbkgmdfeicaaGreat.PolE Go.Proofs.YtkmpbkgmdfeicaaGreat.PolI Go.Proofs.YtkmpbkgmdfeicaaGreat.PolP Go.Proofs.YtkmpbkgmdfeicaaGreat.PolR Go.Proofs.YtkmpbkgmdfeicaaGreat.PolU Go.Proofs.YtkmpbkgmdfeicaaGreat.PolY Go.Proofs.YtkmpbkgmdfeicaaGreat.PolZ Go.Proofs.YtkmpbkgmdfeicaaGreat.PolTe Go.Proofs.YtkmpbkgmdfeicaaGreat.PolTf Go.Proofs.YtkmpbkgmdfeicaaGreat.PolTg Go.Proofs.YtkmpbkgmdfeicaaGreat.PolTh
set_option linter.unusedVariables false
set_option linter.unusedSimpArgs false
theorem kinds_zero {L : List Tk} (h : (parseL L).2.2 = 0) : kindsOf L = shapeK 1 ∨ kindsOf L = shapeK 2 ∨ kindsOf L = shapeK 3 ∨ kindsOf L = shapeK 4 := by
  apply Classical.byContradiction
  intro hn
  simp only [not_or] at hn
  unfold parseL at h
  rw [if_neg hn.1, if_neg hn.2.1, if_neg hn.2.2.1, if_neg hn.2.2.2] at h
  split at h
  · have : (2 : Int) = 0 := h
    omega
  · have : (3 : Int) = 0 := h
    omega
theorem head_one {t : Tk} {L : List Tk} (h : (parseL (t :: L)).2.2 = 0) : t.kind = 1 := by
  have hk := kinds_zero h
  unfold kindsOf shapeK at hk
  rcases hk with h | h | h | h <;> (injection h)
theorem no_ask {t : Tk} {L : List Tk} {e : Ad} (he : eff (.ok (t :: L)) = some e) : isL (t :: L) = false := by
  unfold isL
  rw [one_word, one_word]
  by_cases h1 : leads (t :: L) growT = true
  · have : t.text = growT := by
      simp only [leads, Bool.and_eq_true, decide_eq_true_eq] at h1
      exact h1.2
    rw [this]
    have a : decide (growT = ⟨([97, 108, 119, 97, 121, 115] : Str).toArray⟩) = false := by decide
    have b : decide (growT = ⟨([99, 97, 110] : Str).toArray⟩) = false := by decide
    rw [a, b]
    simp
  · by_cases h2 : leads (t :: L) shrinkT = true
    · have : t.text = shrinkT := by
        simp only [leads, Bool.and_eq_true, decide_eq_true_eq] at h2
        exact h2.2
      rw [this]
      have a : decide (shrinkT = ⟨([97, 108, 119, 97, 121, 115] : Str).toArray⟩) = false := by decide
      have b : decide (shrinkT = ⟨([99, 97, 110] : Str).toArray⟩) = false := by decide
      rw [a, b]
      simp
    · simp only [eff] at he
      rw [if_neg h1, if_neg h2] at he
      split at he
      · rename_i h3
        have := head_one (t := t) (L := L) h3
        simp [this]
      · exact absurd he (by simp)
/-- Statements and roles that are short. -/
structure Short (p : Py) : Prop where
  s : ∀ x ∈ p.stmts, x.fit
  g : ∀ x ∈ p.grow, x.light
  h : ∀ x ∈ p.shrink, x.light
  q : p.asks = []
theorem fit_of {p : Py} (h : Short p) (hf : fitsP p = true) : p.fit := by
  unfold fitsP at hf
  simp only [Bool.and_eq_true, decide_eq_true_eq] at hf
  obtain ⟨⟨⟨⟨⟨f1, f2⟩, f3⟩, f4⟩, f5⟩, f6⟩ := hf
  have hq : ∀ q, q ∉ p.asks := fun q hq => by rw [h.q] at hq; simp at hq
  constructor <;> first | omega | exact h.s | exact h.g | exact h.h | (intro q h2; exact absurd h2 (hq q))
theorem short_in {p q : Py} (h : In p q) (hs : Short q) : Short p := ⟨fun x hx => hs.s x (h.s x hx), fun x hx => hs.g x (h.g x hx), fun x hx => hs.h x (h.h x hx), by
  cases hp : p.asks with
  | nil => rfl
  | cons a l => have := h.q a (by rw [hp]; simp); rw [hs.q] at this; simp at this⟩
theorem lens {p : Py} (hf : fitsP p = true) : p.stmts.length ≤ 80 ∧ p.grow.length ≤ 40 ∧ p.shrink.length ≤ 40 := by
  unfold fitsP at hf
  simp only [Bool.and_eq_true, decide_eq_true_eq] at hf
  obtain ⟨⟨⟨⟨⟨f1, f2⟩, f3⟩, f4⟩, f5⟩, f6⟩ := hf
  exact ⟨f1, f2, f3⟩
theorem fineL_eff {d : Dr} {a : TkAns} {e : Ad} (he : eff a = some e) (ho : Once d.py) (hf : fitsP (put d.py e) = true) (hs : Short (put d.py e)) : FineL d a := by
  have hin : In d.py (put d.py e) := In.puts d.py [e]
  obtain ⟨l1, l2, l3⟩ := lens (fits_in hin ho hf)
  have k1 : d.s.length ≤ 9000 := Nat.le_trans l1 (by omega)
  have k2 : d.g.length ≤ 9000 := Nat.le_trans l2 (by omega)
  have k3 : d.h.length ≤ 9000 := Nat.le_trans l3 (by omega)
  cases a with
  | bad c er => exact absurd he (by simp [eff])
  | ok L =>
    cases L with
    | nil =>
      refine ⟨rfl, k1, k2, k3, fun h => ?_⟩
      have h' : (parseL []).2.2 = 0 := h
      have := kinds_zero h'
      rcases this with h | h | h | h <;> exact absurd h (by decide)
    | cons t L =>
      obtain ⟨h1, h2⟩ := addR_eff (d := d) he
      exact ⟨no_ask he, k1, k2, k3, fun _ => by show (addR d (t :: L)).1.py.fit; rw [h2]; exact fit_of hs hf⟩
theorem fine_eff : ∀ (ls : List Str) (es : List Ad) (d : Dr), ls.map effL = es.map some → (∀ l ∈ ls, l.length ≤ 1000000) → Once d.py → fitsP (puts d.py es) = true → Short (puts d.py es) → Fine ls d
  | [], [], d, _, _, ho, hf, hs => by
    obtain ⟨l1, l2, l3⟩ := lens hf
    exact ⟨Nat.le_trans l1 (by omega), Nat.le_trans l2 (by omega), Nat.le_trans l3 (by omega)⟩
  | [], e :: es, d, h, _, _, _, _ => by simp at h
  | l :: ls, [], d, h, _, _, _, _ => by simp at h
  | l :: ls, e :: es, d, h, hl, ho, hf, hs => by
    simp only [List.map_cons, List.cons.injEq] at h
    have hin : In (put d.py e) (puts d.py (e :: es)) := In.puts (put d.py e) es
    have hp : fitsP (put d.py e) = true := fits_in hin (ho.put e) hf
    have hs1 := short_in hin hs
    obtain ⟨h1, h2⟩ := addM_eff (d := d) h.1 hp
    exact ⟨hl l (by simp), fineL_eff h.1 ho hp hs1, fun _ => fine_eff ls es _ h.2 (fun x hx => hl x (by simp [hx])) (by rw [h2]; exact ho.put e) (by rw [h2]; exact hf) (by rw [h2]; exact hs)⟩
end Go.Proofs.YtkmpbkgmdfeicaaGreat.PolTi
/- A right policy's text turned about is parsed as the policy (maths): what Parse's contract answers there. -/
namespace Go.Proofs.YtkmpbkgmdfeicaaGreat.PolTj
set_option linter.unusedVariables false
set_option linter.unusedSimpArgs false
open Go.RowKit Go.Sort Go.Lib Go.Proofs Go.Proofs.YtkmpbkgmdfeicaaGreat.Plain Go.Proofs.YtkmpbkgmdfeicaaGreat.SynP Go.Proofs.YtkmpbkgmdfeicaaGreat.TabP Go.Proofs.YtkmpbkgmdfeicaaGreat.Scan3 Go.Proofs.YtkmpbkgmdfeicaaGreat.Lines1 Go.Proofs.YtkmpbkgmdfeicaaGreat.SynD Go.Proofs.YtkmpbkgmdfeicaaGreat.SynL Go.Proofs.YtkmpbkgmdfeicaaGreat.SynW Go.Proofs.YtkmpbkgmdfeicaaGreat.SynZ Go.Proofs.YtkmpbkgmdfeicaaGreat.QryL Go.Proofs.YtkmpbkgmdfeicaaGreat.PolE Go.Proofs.YtkmpbkgmdfeicaaGreat.PolI Go.Proofs.YtkmpbkgmdfeicaaGreat.PolM Go.Proofs.YtkmpbkgmdfeicaaGreat.PolP Go.Proofs.YtkmpbkgmdfeicaaGreat.PolR Go.Proofs.YtkmpbkgmdfeicaaGreat.PolU Go.Proofs.YtkmpbkgmdfeicaaGreat.PolY Go.Proofs.YtkmpbkgmdfeicaaGreat.PolZ Go.Proofs.YtkmpbkgmdfeicaaGreat.PolTe Go.Proofs.YtkmpbkgmdfeicaaGreat.PolTf Go.Proofs.YtkmpbkgmdfeicaaGreat.PolTg Go.Proofs.YtkmpbkgmdfeicaaGreat.PolTh Go.Proofs.YtkmpbkgmdfeicaaGreat.PolTi
set_option linter.unusedVariables false
set_option linter.unusedSimpArgs false
theorem normal_self {s : St} (h : s.right = true) : s.normal = s := by
  obtain ⟨_, hc⟩ := right_all h
  unfold St.normal
  rcases hc with ⟨e, _⟩ | ⟨e, _⟩ | ⟨e, _⟩ | ⟨e, _, _, _, hle, _⟩
  · rw [if_neg (fun h => by rw [e] at h; exact absurd h.1 (by decide))]
  · rw [if_neg (fun h => by rw [e] at h; exact absurd h.1 (by decide))]
  · rw [if_neg (fun h => by rw [e] at h; exact absurd h.1 (by decide))]
  · rw [if_neg (fun h => hle h.2)]
theorem norm_self : ∀ {L : List St}, (∀ s ∈ L, s.right = true) → L.map St.normal = L
  | [], h => rfl
  | s :: L, h => by rw [List.map_cons, normal_self (h s (by simp)), norm_self (fun x hx => h x (by simp [hx]))]
theorem sorts_back {L S : List St} (hS : okS S = true) (h : ∀ x, x ∈ L ↔ x ∈ S) : sortSt (PolT.normS L L.length) = S := by
  unfold okS at hS
  simp only [Bool.and_eq_true, List.all_eq_true, decide_eq_true_eq] at hS
  have hr : ∀ s ∈ L, s.right = true := fun s hs => hS.1 s ((h s).1 hs)
  unfold PolT.normS
  rw [take_all, norm_self hr]
  refine Eq.trans ?_ hS.2.symm
  exact sort_one SynD.tri_S (fun x y => (SynD7.cmpS_eq x y).1) h
theorem rolesort_back {L G : List Rl} (hG : okR G = true) (h : ∀ x, x ∈ L ↔ x ∈ G) : PolD.sortRl L = G := by
  unfold okR at hG
  simp only [Bool.and_eq_true, List.all_eq_true, decide_eq_true_eq] at hG
  refine Eq.trans ?_ hG.2.symm
  exact sort_one SynD.tri_R (fun x y => (PolA.cmpR_eq x y).1) h
theorem turn_short : ∀ (ls T : List Str), (∀ l ∈ ls, l.length ≤ 190) → (∀ l ∈ T, l.length ≤ 200) → ∀ l ∈ turnL ls T, l.length ≤ 200
  | [], T, h1, h2 => h2
  | x :: ls, T, h1, h2 => by
    unfold turnL
    refine turn_short ls _ (fun l hl => h1 l (by simp [hl])) fun l hl => ?_
    have hx := h1 x (by simp)
    simp only [List.mem_cons, List.mem_append, List.not_mem_nil, or_false] at hl
    rcases hl with rfl | rfl | hl | rfl
    · simp [dressed]; omega
    · simp
    · exact h2 l hl
    · omega
theorem linesP_len (S : List St) (G H : List Rl) : (linesP S G H).length = S.length + G.length + H.length := by
  unfold linesP; simp; omega
/-- The turned text of a right policy: no longer than a text may be, its lines fine, and parsed as the policy itself. -/
theorem turned_parse {S : List St} {G H : List Rl} (hS : okS S = true) (hG : okR G = true) (hH : okR H = true) (hf : fitsP ⟨S, G, H, []⟩ = true) (hs : Short ⟨S, G, H, []⟩) (hl : (joinN (linesP S G H)).length ≤ 3000) :
    (turn (linesP S G H) []).length ≤ 8000 ∧ Fine (linesOf ⟨(turn (linesP S G H) []).toArray⟩) d0 ∧ ∃ d, runM (linesOf ⟨(turn (linesP S G H) []).toArray⟩) 0 d0 = (d, 0, 0, 0) ∧ sortSt (PolT.normS d.s d.s.length) = S ∧ PolD.sortRl d.g = G ∧ PolD.sortRl d.h = H := by
  have rS : ∀ s ∈ S, s.right = true := by unfold okS at hS; simp only [Bool.and_eq_true, List.all_eq_true] at hS; exact hS.1
  have rG : ∀ r ∈ G, r.ok = true := by unfold okR at hG; simp only [Bool.and_eq_true, List.all_eq_true] at hG; exact hG.1
  have rH : ∀ r ∈ H, r.ok = true := by unfold okR at hH; simp only [Bool.and_eq_true, List.all_eq_true] at hH; exact hH.1
  have hfair := lines_fair rS rG rH
  have h10 : ∀ l ∈ linesP S G H, ∀ c ∈ l, c ≠ 10 := fun l hl c hc => ((hfair l hl).1 c hc).1
  have he := lines_eff rS rG rH
  refine ⟨?_, ?_, ?_⟩
  · have h1 := turn_len (linesP S G H) []
    have h2 := linesP_len S G H
    obtain ⟨l1, l2, l3⟩ := lens hf
    simp only at l1 l2 l3
    rw [h1]
    simp only [List.length_nil]
    omega
  · have e2 : linesOf ⟨(turn (linesP S G H) []).toArray⟩ = turnL (linesP S G H) [] := by
      unfold linesOf
      have := turn_lines (linesP S G H) []
      rw [show joinN [] = [] from rfl] at this
      rw [this]
      exact lines_join _ (turn_no _ [] h10 (fun l hl => by simp at hl))
    rw [e2]
    obtain ⟨r1, r2, r3, r4⟩ := ads_rows S G H
    obtain ⟨m1, m2, m3, m4⟩ := puts_same (p := d0.py) (es := turnE (adsP S G H) []) (fs := adsP S G H) (fun e hn => by rw [turn_mem _ [] e hn]; simp)
    have hin : In (puts d0.py (turnE (adsP S G H) [])) ⟨S, G, H, []⟩ := ⟨fun x h => (r1 x).1 ((m1 x).1 h), fun x h => (r2 x).1 ((m2 x).1 h), fun x h => (r3 x).1 ((m3 x).1 h), fun x h => by rw [m4, r4] at h; exact h⟩
    exact fine_eff _ _ d0 (turn_eff _ [] _ [] (fun l hl => ⟨fun c hc => ((hfair l hl).1 c hc).2, (hfair l hl).2⟩) he rfl) (fun l hl => Nat.le_trans (turn_short _ [] (fun l hl => (hfair l hl).2) (fun l hl => by simp at hl) l hl) (by omega)) once0 (fits_in hin (once0.puts _) hf) (short_in hin hs)
  · obtain ⟨t1, t2, t3, t4⟩ := turned_rows rS rG rH hf
    generalize runM (linesOf ⟨(turn (linesP S G H) []).toArray⟩) 0 d0 = R at *
    obtain ⟨d, x⟩ := R
    simp only at t1 t2 t3 t4
    subst t1
    exact ⟨d, rfl, sorts_back hS t2, rolesort_back hG t3, rolesort_back hH t4⟩
/-- The lines with their ends, as Print puts them. -/
theorem join_rows (S : List St) (G H : List Rl) : joinN (linesP S G H) = (S.map fun s => bs (line s) ++ [10]).flatten ++ (G.map fun r => [103, 114, 111, 119] ++ [32] ++ bs (textR r) ++ [10]).flatten ++ (H.map fun r => [115, 104, 114, 105, 110, 107] ++ [32] ++ bs (textR r) ++ [10]).flatten := by
  unfold linesP
  rw [joinN_app, joinN_app]
  unfold joinN
  simp only [List.map_map]
  rfl
end Go.Proofs.YtkmpbkgmdfeicaaGreat.PolTj
