/- The library's iterator over a text's lines. -/
import Derived.Test.YtpdgjkjbimkmjaaDoorRange
import Derived.Test.YtpdgjkjbimkmjaaDoorLines1
import Derived.Shelf.Abstract
import Derived.Shelf.RegionOpen
import Derived.WalkKit
import Derived.OwnWalkIn
import Derived.TacticsInMore
import Derived.LoopNIn
import Derived.LoopIn
import Derived.Deep.RegionLaw
import Derived.IntWalk
import Derived.RangeFuncBox
namespace Go.Proofs.YtpdgjkjbimkmjaaDoor.LinesIter
open Go.RowKit Go.Shelf Go.Sort Go.Proofs Go.Proofs.YtpdgjkjbimkmjaaDoor.Plain Go.Proofs.YtpdgjkjbimkmjaaDoor.Leaf Go.Proofs.YtpdgjkjbimkmjaaDoor.Named Go.Proofs.YtpdgjkjbimkmjaaDoor.Trim Go.Proofs.YtpdgjkjbimkmjaaDoor.TabP Go.Proofs.YtpdgjkjbimkmjaaDoor.Tab1 Go.Proofs.YtpdgjkjbimkmjaaDoor.Lines1 Go.Proofs.YtpdgjkjbimkmjaaDoor.Range
attribute [local go_sem] Oper.semAt_some
theorem idx_split (l : List UInt8) : (Lib.indexByte l 10 = -1 ∧ ∀ x ∈ l, x ≠ 10) ∨ ∃ p q, l = p ++ 10 :: q ∧ (∀ x ∈ p, x ≠ 10) ∧ Lib.indexByte l 10 = p.length := by
  induction l with
  | nil => exact .inl ⟨rfl, by simp⟩
  | cons b l ih =>
    unfold Lib.indexByte
    by_cases h : b = 10
    · subst h
      exact .inr ⟨[], l, rfl, by simp, by simp⟩
    · have hb : (b == 10) = false := by simpa using h
      simp only [hb, Bool.false_eq_true, if_false]
      rcases ih with ⟨h1, h2⟩ | ⟨p, q, h1, h2, h3⟩
      · left
        rw [h1]
        exact ⟨by simp, fun x hx => by rcases List.mem_cons.1 hx with e | e; · rw [e]; exact h
                                       · exact h2 x e⟩
      · right
        refine ⟨b :: p, q, by rw [h1]; rfl, fun x hx => by rcases List.mem_cons.1 hx with e | e; · rw [e]; exact h
                                                           · exact h2 x e, ?_⟩
        rw [h3, if_neg (by rw [beq_iff_eq]; omega)]
        simp
theorem lnA_nl (acc p q : List UInt8) (h : ∀ x ∈ p, x ≠ 10) : lnA acc (p ++ 10 :: q) = (acc ++ p) :: lnA [] q := by
  induction p generalizing acc with
  | nil => rw [List.nil_append, List.append_nil]; conv => lhs; unfold lnA
           rw [if_pos rfl]
  | cons a p ih =>
    rw [List.cons_append]
    conv => lhs; unfold lnA
    rw [if_neg (h a (by simp)), ih _ fun x hx => h x (by simp [hx]), List.append_assoc]
    rfl
theorem lnA_none (acc l : List UInt8) (h : ∀ x ∈ l, x ≠ 10) (hne : acc ++ l ≠ []) : lnA acc l = [acc ++ l] := by
  induction l generalizing acc with
  | nil => rw [List.append_nil] at hne ⊢; unfold lnA; rw [if_neg hne]
  | cons a l ih =>
    conv => lhs; unfold lnA
    rw [if_neg (h a (by simp)), ih _ (fun x hx => h x (by simp [hx])) (by simp), List.append_assoc]
    rfl
/-- A line without the newline at its end. -/
def strip (b : ByteArray) : Str := Lib.trimSuffix b.data.toList [10]
theorem trim_nl (p : List UInt8) : Lib.trimSuffix (p ++ [10]) [10] = p := by
  unfold Lib.trimSuffix Lib.hasSuffix
  rw [if_pos (List.isSuffixOf_iff_suffix.2 (List.suffix_append p [10]))]
  simp
theorem trim_none (l : List UInt8) (h : ∀ x ∈ l, x ≠ 10) : Lib.trimSuffix l [10] = l := by
  unfold Lib.trimSuffix Lib.hasSuffix
  rw [if_neg]
  intro hs
  exact h 10 ((List.isSuffixOf_iff_suffix.1 hs).subset (by simp)) rfl
def restSize (W : World) (B : Nat) : Nat := match W.cell? ⟨B, 0, none⟩ with | some (.string b) => b.size | _ => 0
theorem restSize_of {W : World} {B : Nat} {t : TypeId} {b : ByteArray} (h : Boxed W B t (.string b)) : restSize W B = b.size := by unfold restSize; rw [h.cell]
abbrev Pf (s rest : ByteArray) (pre : List ByteArray) : Prop := pre.map strip ++ lnA [] rest.data.toList = linesOf s
theorem ext_take (b : ByteArray) (i : Nat) : (b.extract 0 i).data.toList = b.data.toList.take i := by rw [ext_list]; simp
theorem ext_drop (b : ByteArray) (i : Nat) : (b.extract i b.size).data.toList = b.data.toList.drop i := by
  rw [ext_list, List.take_of_length_le (by rw [List.length_drop, toList_len]; omega)]
theorem pf_nl {s rest : ByteArray} {pre : List ByteArray} {p q : List UInt8} (h : Pf s rest pre) (e : rest.data.toList = p ++ 10 :: q) (hp : ∀ x ∈ p, x ≠ 10) :
    Pf s (rest.extract (p.length + 1) rest.size) (pre ++ [rest.extract 0 (p.length + 1)]) := by
  unfold Pf at *
  rw [← h, ext_drop, e, lnA_nl _ _ _ hp, List.map_append, List.append_assoc, List.map_singleton, strip, ext_take, e]
  have e1 : (p ++ 10 :: q).take (p.length + 1) = p ++ [10] := by rw [show p ++ 10 :: q = (p ++ [10]) ++ q from by simp, List.take_left' (by simp)]
  have e2 : (p ++ 10 :: q).drop (p.length + 1) = q := by rw [show p ++ 10 :: q = (p ++ [10]) ++ q from by simp, List.drop_left' (by simp)]
  rw [e1, e2, trim_nl]
  rfl
theorem pf_none {s rest : ByteArray} {pre : List ByteArray} (h : Pf s rest pre) (h0 : 0 < rest.size) (hp : ∀ x ∈ rest.data.toList, x ≠ 10) : Pf s ⟨#[]⟩ (pre ++ [rest]) := by
  unfold Pf at *
  rw [← h, lnA_none _ _ hp (by intro e; have := toList_len rest; rw [List.nil_append] at e; rw [e] at this; simp at this; omega), List.map_append, List.append_assoc, List.map_singleton, strip, trim_none _ hp]
  rfl
theorem pf_end {s rest : ByteArray} {pre : List ByteArray} (h : Pf s rest pre) (h0 : ¬ 0 < rest.size) : pre.map strip = linesOf s := by
  unfold Pf at h
  rw [List.eq_nil_of_length_eq_zero (show rest.data.toList.length = 0 by rw [toList_len]; omega)] at h
  rw [← h]
  exact (List.append_nil _).symm
set_option maxRecDepth 100000 in
set_option maxHeartbeats 1000000 in
theorem linesIter (s : ByteArray) (hs : s.size ≤ 100000) (n l B : Nat) (I J : List ByteArray → World → Prop) (hJI : ∀ pre W, J pre W → I pre W) (hJk : ∀ pre W W', J pre W → KeepsOthers W W' → I pre W' → J pre W')
    (hIs : ∀ pre W v, I pre W → I pre (W.setCell ⟨B, 0, none⟩ v)) (hId : ∀ pre W, I pre W → I pre W.drew)
    (hY : ∀ pre (x : ByteArray) W, J pre W → pre.length < s.size → x.size ≤ 100000 → YieldAt Fence.wide (n - 1) Tryd.prog l #[.string x] W fun e W' => e = .returned (.bool true) ∧ J (pre ++ [x]) W' ∧ (∀ v, Boxed W B 9 v → Boxed W' B 9 v))
    (W : World) (hb : Boxed W B 9 (.string s)) (h0 : J [] W) :
    CallsIn Fence.wide n Tryd.prog 56 #[.func (.yield l) #[] #[], .pointer (some ⟨B, 0, none⟩)] W fun e W' => (∃ v, e = .returned v) ∧ ∃ xs, xs.map strip = linesOf s ∧ J xs W' := by
  refine callsIn_of_wp Tryd.func56 rfl trivial ?_ rfl
  simp only [Tryd.ntmps56, List.size_toArray, List.length_cons, List.length_nil, Nat.reduceAdd, Nat.reduceSub, Array.replicate_succ, Array.replicate_zero, List.push_toArray, List.append_toArray, List.nil_append, List.cons_append]
  gi_wp2
  gi_loopw [3] (fun _ wr => ∃ (pre : List ByteArray) (rest : ByteArray), Boxed wr B 9 (.string rest) ∧ pre.length + rest.size ≤ s.size ∧ Hid (Pf s rest pre) ∧ J pre wr) (fun _ wr => restSize wr B)
  case atStart => exact ⟨[], s, hb, by simp, Lib.hid rfl, h0⟩
  case round =>
    obtain ⟨pre, rest, hbx, hle, hpf, hJ⟩ := hrel
    have hc := hbx.cell
    have hf := hbx.frozen
    have hm := restSize_of hbx
    by_cases h0 : 0 < rest.size
    · rcases idx_split rest.data.toList with ⟨h1, h2⟩ | ⟨p, q, h1, h2, h3⟩
      · have hn := Lib.hid (pf_none hpf.out h0 h2)
        have H1 := Lib.hid (show Lib.indexByte rest.data.toList (10 : Int).toNat.toUInt8 = -1 from h1)
        clear h1 h2
        gi_wp2_with fail
        refine ⟨trivial, (fun h => by cases h), (callsIn_wide.2 (Tryd.strings_IndexByte rest 10 _)).mono ?_⟩
        rintro e w' ⟨rfl, rfl⟩
        rw [H1.out]
        have hb2 : Boxed (w'.setCell ⟨B, 0, none⟩ (.string ⟨#[]⟩)) B 9 (.string ⟨#[]⟩) := hbx.set _
        have hJ2 := hJk _ _ _ hJ (KeepsOthers.setCell w' ⟨B, 0, none⟩ (.string ⟨#[]⟩)) (hIs _ _ _ (hJI _ _ hJ))
        obtain ⟨fn, tmps, assign, body, hy, hR⟩ := hY pre rest _ hJ2 (by omega) (by omega)
        gi_wp2_with fail
        refine ⟨(fun h => by cases h), hR.mono ?_⟩
        rintro e W3 ⟨rfl, hJ3, hk3⟩
        have hb3 := hk3 _ hb2
        have hm3 := restSize_of hb3
        gi_wp2_with fail
        go_roundw
        case rel => exact ⟨_, _, hb3, by rw [List.length_append]; show _ + 1 + 0 ≤ _; omega, hn, hJ3⟩
        case measure => rw [hm3, hm]; exact h0
      · have hplt : p.length < rest.size := by rw [← toList_len, h1]; simp
        have hn := Lib.hid (pf_nl hpf.out h1 h2)
        have H3 := Lib.hid (show Lib.indexByte rest.data.toList (10 : Int).toNat.toUInt8 = p.length from h3)
        clear h1 h2 h3
        gi_wp2_with fail
        refine ⟨trivial, (fun h => by cases h), (callsIn_wide.2 (Tryd.strings_IndexByte rest 10 _)).mono ?_⟩
        rintro e w' ⟨rfl, rfl⟩
        rw [H3.out]
        gi_wp2_with fail
        have hw1 : IntKind.i64.wrap ((p.length : Int) + 1) = (p.length : Int) + 1 := IntWalk.i64_in _ (by omega)
        have hw2 : (0 : Int) ≤ (p.length : Int) + 1 := by omega
        have hw3 : ((p.length : Int) + 1).toNat = p.length + 1 := by omega
        have hw4 : (p.length : Int) + 1 ≤ rest.size := by omega
        refine wpIn_wide.2 ?_
        go_region
        have hb2 : Boxed (w'.setCell ⟨B, 0, none⟩ (.string (rest.extract (p.length + 1) rest.size))).drew B 9 (.string (rest.extract (p.length + 1) rest.size)) := hbx.set _
        have hJ2 := hJk _ _ _ hJ ((KeepsOthers.setCell w' ⟨B, 0, none⟩ (.string (rest.extract (p.length + 1) rest.size))).trans (KeepsOthers.drew _)) (hId _ _ (hIs _ _ _ (hJI _ _ hJ)))
        clear hw1 hw2 hw3 hw4 hc hf
        generalize (w'.setCell ⟨B, 0, none⟩ (.string (rest.extract (p.length + 1) rest.size))).drew = W2 at *
        obtain ⟨fn, tmps, assign, body, hy, hR⟩ := hY pre (rest.extract 0 (p.length + 1)) W2 hJ2 (by omega) (by rw [ext_size]; omega)
        gi_wp2_with fail
        refine ⟨(fun h => by cases h), hR.mono ?_⟩
        rintro e W3 ⟨rfl, hJ3, hk3⟩
        have hb3 := hk3 _ hb2
        have hz := ext_size rest (p.length + 1) rest.size
        have hm3 := restSize_of hb3
        gi_wp2_with fail
        go_roundw
        case rel => exact ⟨_, _, hb3, by rw [List.length_append]; show _ + 1 + _ ≤ _; omega, hn, hJ3⟩
        case measure => rw [hm3, hm]; omega
    · have hend := pf_end hpf.out h0
      gi_wp2_with fail
      go_end0
      exact ⟨⟨_, rfl⟩, pre, hend, hJ⟩
end Go.Proofs.YtpdgjkjbimkmjaaDoor.LinesIter
