/- A text's lines, in the document's answers. -/
import Derived.Test.YtpdgjkjbimkmjaaDoorTrim
import Derived.Test.YtpdgjkjbimkmjaaDoorTab6
namespace Go.Proofs.YtpdgjkjbimkmjaaDoor.Lines1
open Go.RowKit Go.Sort Go.Proofs Go.Proofs.YtpdgjkjbimkmjaaDoor.Plain Go.Proofs.YtpdgjkjbimkmjaaDoor.Leaf Go.Proofs.YtpdgjkjbimkmjaaDoor.Named Go.Proofs.YtpdgjkjbimkmjaaDoor.Trim Go.Proofs.YtpdgjkjbimkmjaaDoor.TabP Go.Proofs.YtpdgjkjbimkmjaaDoor.Tab1 Go.Proofs.YtpdgjkjbimkmjaaDoor.Tab2 Go.Proofs.YtpdgjkjbimkmjaaDoor.Tab3 Go.Proofs.YtpdgjkjbimkmjaaDoor.Tab4 Go.Proofs.YtpdgjkjbimkmjaaDoor.Tab5 Go.Proofs.YtpdgjkjbimkmjaaDoor.Tab6
/-- The lines of acc and what follows it. -/
def lnA (acc : Str) : List UInt8 → List Str
  | [] => if acc = [] then [] else [acc]
  | c :: l => if c = 10 then acc :: lnA [] l else lnA (acc ++ [c]) l
def linesOf (s : ByteArray) : List Str := lnA [] s.data.toList
theorem lnA_len (acc : Str) (l : List UInt8) : (lnA acc l).length ≤ l.length + 1 := by
  induction l generalizing acc with
  | nil => unfold lnA; split <;> simp
  | cons c l ih =>
    unfold lnA
    split
    · have := ih []; simp; omega
    · have := ih (acc ++ [c]); simp; omega
theorem linesOf_len (s : ByteArray) : (linesOf s).length ≤ s.size + 1 := by have := lnA_len [] s.data.toList; rw [toList_len] at this; exact this
theorem encStr_data (b : ByteArray) : encStr b.data.toList = .string b := by unfold encStr; simp
theorem drop_at {s : ByteArray} {k : Nat} (h : k < s.size) : s.data.toList.drop k = s[k] :: s.data.toList.drop (k + 1) := by
  rw [List.drop_eq_getElem_cons (by rw [toList_len]; exact h)]
  rfl
theorem ext_list (s : ByteArray) (f k : Nat) : (s.extract f k).data.toList = (s.data.toList.drop f).take (k - f) := by
  rw [ByteArray.data_extract, Array.toList_extract]
theorem ext_next {s : ByteArray} {f k : Nat} (hf : f ≤ k) (h : k < s.size) : (s.extract f (k + 1)).data.toList = (s.extract f k).data.toList ++ [s[k]] := by
  rw [ext_list, ext_list, show k + 1 - f = (k - f) + 1 from by omega, List.take_add_one, List.getElem?_drop, show f + (k - f) = k from by omega, List.getElem?_eq_getElem (by rw [toList_len]; exact h)]
  rfl
theorem ext_self (s : ByteArray) (k : Nat) : (s.extract k k).data.toList = [] := by rw [ext_list]; simp
theorem newline_toNat {x : UInt8} : ((x.toNat : Int) == 10) = true ↔ x = 10 := by
  rw [beq_iff_eq]
  constructor
  · intro h; exact UInt8.toNat_inj.1 (by show x.toNat = 10; omega)
  · intro h; subst h; rfl
theorem step_nl {s : ByteArray} {f k : Nat} {D : List Str} (h : k < s.size) (hc : s[k] = 10) (hd : D ++ lnA (s.extract f k).data.toList (s.data.toList.drop k) = linesOf s) :
    (D ++ [(s.extract f k).data.toList]) ++ lnA (s.extract (k + 1) (k + 1)).data.toList (s.data.toList.drop (k + 1)) = linesOf s := by
  rw [← hd, drop_at h, hc]
  conv => rhs; unfold lnA
  rw [if_pos rfl, ext_self, List.append_assoc]
  rfl
theorem step_other {s : ByteArray} {f k : Nat} {D : List Str} (hf : f ≤ k) (h : k < s.size) (hc : s[k] ≠ 10) (hd : D ++ lnA (s.extract f k).data.toList (s.data.toList.drop k) = linesOf s) :
    D ++ lnA (s.extract f (k + 1)).data.toList (s.data.toList.drop (k + 1)) = linesOf s := by
  rw [← hd, drop_at h]
  conv => rhs; unfold lnA
  rw [if_neg hc, ext_next hf h]
theorem step_end {s : ByteArray} {f : Nat} {D : List Str} (hf : f ≤ s.size) (hd : D ++ lnA (s.extract f s.size).data.toList (s.data.toList.drop s.size) = linesOf s) :
    (f < s.size → linesOf s = D ++ [(s.extract f s.size).data.toList]) ∧ (¬ f < s.size → linesOf s = D) := by
  have hl : (s.extract f s.size).data.toList.length = s.size - f := by rw [toList_len, ext_size]; omega
  rw [List.drop_eq_nil_of_le (by rw [toList_len]; exact Nat.le_refl _)] at hd
  unfold lnA at hd
  constructor
  · intro h
    rw [if_neg (by intro e; rw [e] at hl; simp at hl; omega)] at hd
    exact hd.symm
  · intro h
    rw [if_pos (List.eq_nil_of_length_eq_zero (by omega)), List.append_nil] at hd
    exact hd.symm
theorem linesRef (s : ByteArray) (w : World) (hs : s.size ≤ 100000) : Calls Tryd.prog 24 #[.string s] w (RowPost (linesOf s) w) := by
  obtain ⟨i0, hi, hz0, hz1, hz2⟩ := info_parts infoStr
  go_enter Tryd.func24, Tryd.ntmps24
  go_wp2_with fail
  go_loopw [3, 4, 5] (fun v f i wr => ∃ (fn k : Nat) (D : List Str), f = .int .i64 fn ∧ i = .int .i64 k ∧ fn ≤ k ∧ k ≤ s.size ∧ D.length ≤ k ∧ Hid (D ++ lnA (s.extract fn k).data.toList (s.data.toList.drop k) = linesOf s) ∧ wr.ownsRow w.heap.size 9 1 v D.length (D.map encStr) ∧ Below w.heap.size w wr) (fun _ _ i _ => s.size - (intOf i).toNat)
  case atStart => exact ⟨0, 0, [], rfl, rfl, by omega, by omega, by simp, Lib.hid (by rw [ext_self]; rfl), World.ownsRow_nil _ _ _ _, Below.refl _ _⟩
  case round =>
    obtain ⟨fn, k, D, rfl, rfl, hfk, hk, hDk, hd, hown, hbel⟩ := hrel
    by_cases hlt : k < s.size
    · by_cases hc : s[k] = 10
      · have hc' : ((s[k].toNat : Int) == 10) = true := newline_toNat.2 hc
        have hn := Lib.hid (step_nl hlt hc hd.out)
        clear hc hd
        go_wp2_with (at_builtin; refine wpList_append_own _ rfl _ _ 24 rfl w.heap.size 9 i0 (.string ⟨#[]⟩) 1 16 Tryd.underlying24 hi hz0 hz1 hz2 rfl (by decide) _ _ _ rfl (hown.alloc _) ⟨wr.heap.size, 0, none⟩ 1 1 [.string (s.extract fn k)] rfl rfl ?c1 ?c2 ?c3 ?c4 ?c5 ?_)
        case c1 => exact new_cell1 _ _ _
        case c2 => intro u hu; simp at hu; subst hu; rfl
        case c3 => unfold maxLen; omega
        case c4 => omega
        case c5 => have := hbel.size; simp; omega
        intro v' w3 hown3 hgrow _
        have hbel3 := (hbel.alloc hbel.size _).grown hgrow (by have := hbel.size; simp; omega) (fun k hk => (hown.lt k hk).1)
        rw [← encStr_data] at hown3
        have hown4 := own_app hown3 rfl
        clear hown hown3 hgrow hbel hc'
        go_wp2_with fail
        go_roundw
        case rel => exact ⟨k + 1, k + 1, _, by go_num, by go_num, by omega, by omega, by simp; omega, hn, hown4, hbel3⟩
        case measure => simp [intOf]; omega
      · have hc' : ((s[k].toNat : Int) == 10) = false := by rw [Bool.eq_false_iff]; exact fun h => hc (newline_toNat.1 h)
        have hn := Lib.hid (step_other hfk hlt hc hd.out)
        clear hc hd
        go_wp2_with fail
        go_roundw
        case rel => exact ⟨fn, k + 1, D, rfl, by go_num, by omega, by omega, by omega, hn, hown, hbel⟩
        case measure => simp [intOf]; omega
    · have e : k = s.size := by omega
      subst e
      have hend := step_end hfk hd.out
      by_cases hf : fn < s.size
      · have hn := Lib.hid (hend.1 hf)
        clear hend hd
        go_wp2_with (at_builtin; refine wpList_append_own _ rfl _ _ 24 rfl w.heap.size 9 i0 (.string ⟨#[]⟩) 1 16 Tryd.underlying24 hi hz0 hz1 hz2 rfl (by decide) _ _ _ rfl (hown.alloc _) ⟨wr.heap.size, 0, none⟩ 1 1 [.string (s.extract fn s.size)] rfl rfl ?d1 ?d2 ?d3 ?d4 ?d5 ?_)
        case d1 => exact new_cell1 _ _ _
        case d2 => intro u hu; simp at hu; subst hu; rfl
        case d3 => unfold maxLen; omega
        case d4 => omega
        case d5 => have := hbel.size; simp; omega
        intro v' w3 hown3 hgrow _
        have hbel3 := (hbel.alloc hbel.size _).grown hgrow (by have := hbel.size; simp; omega) (fun k hk => (hown.lt k hk).1)
        rw [← encStr_data] at hown3
        have hown4 := own_app hown3 hn.out
        clear hown hown3 hgrow hbel
        go_wp2_with fail
        go_ret
        exact ⟨_, rfl, hown4, hbel3⟩
      · have hn := Lib.hid (hend.2 hf)
        clear hend hd
        go_wp2_with fail
        go_ret
        exact ⟨_, rfl, by rw [hn.out]; exact hown, hbel⟩
end Go.Proofs.YtpdgjkjbimkmjaaDoor.Lines1
