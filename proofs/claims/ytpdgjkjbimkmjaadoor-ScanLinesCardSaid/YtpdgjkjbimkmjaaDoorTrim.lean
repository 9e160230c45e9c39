/- A line without its comment and the blanks around it, in the program and in the document's answers. -/
import Derived.Test.YtpdgjkjbimkmjaaDoorScan2
namespace Go.Proofs.YtpdgjkjbimkmjaaDoor.Trim
open Go.RowKit Go.Proofs.YtpdgjkjbimkmjaaDoor.Plain Go.Proofs.YtpdgjkjbimkmjaaDoor.Leaf Go.Proofs.YtpdgjkjbimkmjaaDoor.Named Go.Proofs.YtpdgjkjbimkmjaaDoor.Scan1 Go.Proofs.YtpdgjkjbimkmjaaDoor.Scan2
def tL (l : List UInt8) : List UInt8 := l.dropWhile (fun x => x == 32)
def tR (l : List UInt8) : List UInt8 := (tL l.reverse).reverse
theorem tL_blank {l : List UInt8} : tL (32 :: l) = tL l := by unfold tL; rw [List.dropWhile_cons, if_pos (by decide)]
theorem tL_other {c : UInt8} {l : List UInt8} (h : c ≠ 32) : tL (c :: l) = c :: l := by unfold tL; rw [List.dropWhile_cons, if_neg (by simpa using h)]
theorem tL_snoc_other {c : UInt8} (h : c ≠ 32) (l : List UInt8) : tL (l ++ [c]) = tL l ++ [c] := by
  induction l with
  | nil => exact tL_other h
  | cons a l ih =>
    by_cases e : a = 32
    · subst e; rw [List.cons_append, tL_blank, tL_blank, ih]
    · rw [List.cons_append, tL_other e, tL_other e]; rfl
theorem tL_snoc_blank (l : List UInt8) : tL (l ++ [32]) = if tL l = [] then [] else tL l ++ [32] := by
  induction l with
  | nil => decide
  | cons a l ih =>
    by_cases e : a = 32
    · subst e; rw [List.cons_append, tL_blank, tL_blank, ih]
    · rw [List.cons_append, tL_other e, tL_other e, if_neg (by simp)]; rfl
theorem tR_cons_other {c : UInt8} (h : c ≠ 32) (l : List UInt8) : tR (c :: l) = c :: tR l := by
  unfold tR; rw [List.reverse_cons, tL_snoc_other h, List.reverse_append]; rfl
theorem tR_cons_blank (l : List UInt8) : tR (32 :: l) = if tR l = [] then [] else 32 :: tR l := by
  unfold tR
  rw [List.reverse_cons, tL_snoc_blank]
  by_cases e : tL l.reverse = []
  · rw [if_pos e, e]; rfl
  · rw [if_neg e, if_neg (by simpa using e), List.reverse_append]; rfl
theorem trims (l : List UInt8) : tL (tR l) = tR (tL l) := by
  induction l with
  | nil => rfl
  | cons a l ih =>
    by_cases e : a = 32
    · subst e
      rw [tL_blank, tR_cons_blank, ← ih]
      by_cases e : tR l = []
      · rw [if_pos e, e]
      · rw [if_neg e, tL_blank]
    · rw [tL_other e, tR_cons_other e, tL_other e]
theorem tR_blank (l : List UInt8) : tR (l ++ [32]) = tR l := by unfold tR; rw [List.reverse_append]; show (tL (32 :: l.reverse)).reverse = _; rw [tL_blank]
theorem tR_other {c : UInt8} (h : c ≠ 32) (l : List UInt8) : tR (l ++ [c]) = l ++ [c] := by
  unfold tR; rw [List.reverse_append]; show (tL (c :: l.reverse)).reverse = _; rw [tL_other h, List.reverse_cons, List.reverse_reverse]
/-- The text as bytes. -/
def strOf (l : List UInt8) : ByteArray := ⟨l.toArray⟩
theorem strOf_data (b : ByteArray) : strOf b.data.toList = b := by unfold strOf; simp
/-- b's first byte, and what follows. -/
theorem cons_of {b : ByteArray} (h : 0 < b.size) : b.data.toList = b[0] :: (b.extract 1 b.size).data.toList := by
  have hl := toList_len b
  rw [ByteArray.data_extract]
  have : b.data.toList ≠ [] := fun e => by rw [e] at hl; simp at hl; omega
  obtain ⟨a, l, e⟩ := List.exists_cons_of_ne_nil this
  have ha : b[0] = a := by
    have h0 : b[0] = b.data.toList[0]'(by omega) := rfl
    rw [h0]; simp [e]
  rw [ha, e]
  congr 1
  rw [Array.toList_extract]
  simp [List.extract, e]
  rw [show b.size - 1 = l.length from by rw [e] at hl; simp at hl; omega]
  simp
theorem snoc_of {b : ByteArray} (h : 0 < b.size) : b.data.toList = (b.extract 0 (b.size - 1)).data.toList ++ [b[b.size - 1]] := by
  have hl := toList_len b
  rw [ByteArray.data_extract, Array.toList_extract]
  have h0 : b[b.size - 1] = b.data.toList[b.size - 1]'(by omega) := rfl
  rw [h0]
  simp only [List.extract, Nat.sub_zero, List.drop_zero]
  conv => lhs; rw [← List.take_append_drop (b.size - 1) b.data.toList]
  rw [List.drop_eq_getElem_cons (by omega), List.drop_eq_nil_of_le (by omega)]
theorem bare_size (s : ByteArray) : (bare s).size ≤ s.size := by
  have h : (bare s).data.toList.length ≤ s.data.toList.length := by
    unfold bare
    show ((s.data.toList.takeWhile _).toArray.toList).length ≤ _
    rw [List.toList_toArray]
    exact (List.takeWhile_sublist _).length_le
  rw [toList_len, toList_len] at h
  exact h
theorem blank_toNat {x : UInt8} : ((x.toNat : Int) == 32) = true ↔ x = 32 := by
  rw [beq_iff_eq]
  constructor
  · intro h; exact UInt8.toNat_inj.1 (by show x.toNat = 32; omega)
  · intro h; subst h; rfl
theorem ext_size (b : ByteArray) (i j : Nat) : (b.extract i j).size = min j b.size - i := ByteArray.size_extract
theorem trimRef (s : ByteArray) (w : World) (hs : s.size ≤ maxLen) : Calls Tryd.prog 26 #[.string s] w fun e w' => e = .returned (.string (strOf (tR (tL (bare s).data.toList)))) ∧ w = w' := by
  have hbs : (bare s).size ≤ s.size := bare_size s
  have hs' := hs
  unfold maxLen at hs
  have hbare := Lib.hid (bareRef s w hs')
  generalize bare s = t at *
  go_enter Tryd.func26, Tryd.ntmps26
  go_wp2_with (go_at_call 47; refine hbare.out.mono ?_; rintro e w' ⟨rfl, rfl⟩)
  go_loop [3] (fun v => ∃ b : ByteArray, v = .string b ∧ b.size ≤ t.size ∧ Hid (tL b.data.toList = tL t.data.toList)) (fun v => match v with | .string b => b.size | _ => 0)
  case atStart => exact ⟨t, rfl, Nat.le_refl _, Lib.hid rfl⟩
  case round =>
    obtain ⟨b, rfl, hb, hd⟩ := hrel
    by_cases h0 : 0 < b.size
    · by_cases hc : b[0] = 32
      · have hc' : ((b[0].toNat : Int) == 32) = true := blank_toNat.2 hc
        have hn : Hid (tL (b.extract 1 b.size).data.toList = tL t.data.toList) := Lib.hid (by rw [← hd.out, cons_of h0, hc, tL_blank])
        have hz := ext_size b 1 b.size
        clear hc hd
        go_wp2_with fail
        go_round
        case rel => exact ⟨_, rfl, by omega, hn⟩
        case measure => simp; omega
      · have hc' : ((b[0].toNat : Int) == 32) = false := by rw [Bool.eq_false_iff]; exact fun h => hc (blank_toNat.1 h)
        have hn : Hid (tL t.data.toList = b.data.toList) := Lib.hid (by rw [← hd.out, cons_of h0, tL_other hc])
        clear hc hd
        go_wp2_with fail
        have _ := hc'
        go_loop [3] (fun v => ∃ d : ByteArray, v = .string d ∧ d.size ≤ t.size ∧ Hid (tR d.data.toList = tR (tL t.data.toList))) (fun v => match v with | .string d => d.size | _ => 0)
        case atStart => exact ⟨b, rfl, hb, Lib.hid (by rw [hn.out])⟩
        case round =>
          obtain ⟨d, rfl, hd2, hq⟩ := hrel
          by_cases h2 : 0 < d.size
          · have hix : ((d.size : Int) - 1).toNat = d.size - 1 := by omega
            by_cases hc : d[d.size - 1] = 32
            · have hc' : ((d[d.size - 1].toNat : Int) == 32) = true := blank_toNat.2 hc
              have hn2 : Hid (tR (d.extract 0 (d.size - 1)).data.toList = tR (tL t.data.toList)) := Lib.hid (by rw [← hq.out, snoc_of h2, hc, tR_blank])
              have hz := ext_size d 0 (d.size - 1)
              clear hc hq
              go_wp2_with fail
              go_round
              case rel => exact ⟨_, rfl, by omega, hn2⟩
              case measure => simp; omega
            · have hc' : ((d[d.size - 1].toNat : Int) == 32) = false := by rw [Bool.eq_false_iff]; exact fun h => hc (blank_toNat.1 h)
              have hn2 := Lib.hid (show d = strOf (tR (tL t.data.toList)) from by
                rw [← hq.out, snoc_of h2, tR_other hc, ← snoc_of h2, strOf_data])
              clear hc hq
              go_wp2_with fail
              go_ret
              exact ⟨ret_str hn2.out, rfl⟩
          · have hn2 := Lib.hid (show d = strOf (tR (tL t.data.toList)) from by
              have : d.data.toList = [] := List.eq_nil_of_length_eq_zero (by rw [toList_len]; omega)
              rw [← hq.out, this]
              exact (strOf_data d).symm.trans (by rw [this]; rfl))
            clear hq
            go_wp2_with fail
            go_ret
            exact ⟨ret_str hn2.out, rfl⟩
    · have hn : Hid (tL t.data.toList = b.data.toList) := Lib.hid (by
        have : b.data.toList = [] := List.eq_nil_of_length_eq_zero (by rw [toList_len]; omega)
        rw [← hd.out, this]; rfl)
      clear hd
      go_wp2_with fail
      clear h0
      go_loop [3] (fun v => ∃ d : ByteArray, v = .string d ∧ d.size ≤ t.size ∧ Hid (tR d.data.toList = tR (tL t.data.toList))) (fun v => match v with | .string d => d.size | _ => 0)
      case atStart => exact ⟨b, rfl, hb, Lib.hid (by rw [hn.out])⟩
      case round =>
        obtain ⟨d, rfl, hd2, hq⟩ := hrel
        by_cases h2 : 0 < d.size
        · have hix : ((d.size : Int) - 1).toNat = d.size - 1 := by omega
          by_cases hc : d[d.size - 1] = 32
          · have hc' : ((d[d.size - 1].toNat : Int) == 32) = true := blank_toNat.2 hc
            have hn2 : Hid (tR (d.extract 0 (d.size - 1)).data.toList = tR (tL t.data.toList)) := Lib.hid (by rw [← hq.out, snoc_of h2, hc, tR_blank])
            have hz := ext_size d 0 (d.size - 1)
            clear hc hq
            go_wp2_with fail
            go_round
            case rel => exact ⟨_, rfl, by omega, hn2⟩
            case measure => simp; omega
          · have hc' : ((d[d.size - 1].toNat : Int) == 32) = false := by rw [Bool.eq_false_iff]; exact fun h => hc (blank_toNat.1 h)
            have hn2 := Lib.hid (show d = strOf (tR (tL t.data.toList)) from by
              rw [← hq.out, snoc_of h2, tR_other hc, ← snoc_of h2, strOf_data])
            clear hc hq
            go_wp2_with fail
            go_ret
            exact ⟨ret_str hn2.out, rfl⟩
        · have hn2 := Lib.hid (show d = strOf (tR (tL t.data.toList)) from by
            have : d.data.toList = [] := List.eq_nil_of_length_eq_zero (by rw [toList_len]; omega)
            rw [← hq.out, this]
            exact (strOf_data d).symm.trans (by rw [this]; rfl))
          clear hq
          go_wp2_with fail
          go_ret
          exact ⟨ret_str hn2.out, rfl⟩
theorem trimLeftByte (s : ByteArray) (w : World) : Calls Tryd.prog 59 #[.string s, .int .u8 32] w fun e w' => e = .returned (.string (strOf (tL s.data.toList))) ∧ w' = w := by
  go_enter Tryd.func59, Tryd.ntmps59
  go_wp2_with fail
  go_loop [0] (fun v => ∃ b : ByteArray, v = .string b ∧ b.size ≤ s.size ∧ Hid (tL b.data.toList = tL s.data.toList)) (fun v => match v with | .string b => b.size | _ => 0)
  case atStart => exact ⟨s, rfl, Nat.le_refl _, Lib.hid rfl⟩
  case round =>
    obtain ⟨b, rfl, hb, hd⟩ := hrel
    by_cases h0 : 0 < b.size
    · by_cases hc : b[0] = 32
      · have hc' : ((b[0].toNat : Int) == 32) = true := blank_toNat.2 hc
        have hn : Hid (tL (b.extract 1 b.size).data.toList = tL s.data.toList) := Lib.hid (by rw [← hd.out, cons_of h0, hc, tL_blank])
        have hz := ext_size b 1 b.size
        clear hc hd
        go_wp2_with fail
        go_round
        case rel => exact ⟨_, rfl, by omega, hn⟩
        case measure => simp; omega
      · have hc' : ((b[0].toNat : Int) == 32) = false := by rw [Bool.eq_false_iff]; exact fun h => hc (blank_toNat.1 h)
        have hn := Lib.hid (show b = strOf (tL s.data.toList) from by rw [← hd.out, cons_of h0, tL_other hc, ← cons_of h0, strOf_data])
        clear hc hd
        go_wp2_with fail
        go_ret
        exact ⟨ret_str hn.out, rfl⟩
    · have hn := Lib.hid (show b = strOf (tL s.data.toList) from by
        have : b.data.toList = [] := List.eq_nil_of_length_eq_zero (by rw [toList_len]; omega)
        rw [← hd.out, this]
        exact (strOf_data b).symm.trans (by rw [this]; rfl))
      clear hd
      go_wp2_with fail
      go_ret
      exact ⟨ret_str hn.out, rfl⟩
theorem trimRightByte (s : ByteArray) (w : World) (hs : s.size ≤ maxLen) : Calls Tryd.prog 60 #[.string s, .int .u8 32] w fun e w' => e = .returned (.string (strOf (tR s.data.toList))) ∧ w' = w := by
  unfold maxLen at hs
  go_enter Tryd.func60, Tryd.ntmps60
  go_wp2_with fail
  go_loop [0] (fun v => ∃ d : ByteArray, v = .string d ∧ d.size ≤ s.size ∧ Hid (tR d.data.toList = tR s.data.toList)) (fun v => match v with | .string d => d.size | _ => 0)
  case atStart => exact ⟨s, rfl, Nat.le_refl _, Lib.hid rfl⟩
  case round =>
    obtain ⟨d, rfl, hd2, hq⟩ := hrel
    by_cases h2 : 0 < d.size
    · have hix : ((d.size : Int) - 1).toNat = d.size - 1 := by omega
      by_cases hc : d[d.size - 1] = 32
      · have hc' : ((d[d.size - 1].toNat : Int) == 32) = true := blank_toNat.2 hc
        have hn2 : Hid (tR (d.extract 0 (d.size - 1)).data.toList = tR s.data.toList) := Lib.hid (by rw [← hq.out, snoc_of h2, hc, tR_blank])
        have hz := ext_size d 0 (d.size - 1)
        clear hc hq
        go_wp2_with fail
        go_round
        case rel => exact ⟨_, rfl, by omega, hn2⟩
        case measure => simp; omega
      · have hc' : ((d[d.size - 1].toNat : Int) == 32) = false := by rw [Bool.eq_false_iff]; exact fun h => hc (blank_toNat.1 h)
        have hn2 := Lib.hid (show d = strOf (tR s.data.toList) from by
          rw [← hq.out, snoc_of h2, tR_other hc, ← snoc_of h2, strOf_data])
        clear hc hq
        go_wp2_with fail
        go_ret
        exact ⟨ret_str hn2.out, rfl⟩
    · have hn2 := Lib.hid (show d = strOf (tR s.data.toList) from by
        have : d.data.toList = [] := List.eq_nil_of_length_eq_zero (by rw [toList_len]; omega)
        rw [← hq.out, this]
        exact (strOf_data d).symm.trans (by rw [this]; rfl))
      clear hq
      go_wp2_with fail
      go_ret
      exact ⟨ret_str hn2.out, rfl⟩
theorem strOf_size (l : List UInt8) : (strOf l).size = l.length := by unfold strOf; rfl
theorem tL_len (l : List UInt8) : (tL l).length ≤ l.length := (List.dropWhile_sublist _).length_le
theorem tR_len (l : List UInt8) : (tR l).length ≤ l.length := by unfold tR; rw [List.length_reverse]; have := tL_len l.reverse; rw [List.length_reverse] at this; exact this
theorem strOf_toList (l : List UInt8) : (strOf l).data.toList = l := by unfold strOf; rfl
set_option maxRecDepth 100000 in
theorem trimS (s : ByteArray) (w : World) (hs : s.size ≤ maxLen) : Calls Tryd.prog 45 #[.string s, .string ⟨#[32]⟩] w fun e w' => e = .returned (.string (strOf (tR (tL s.data.toList)))) ∧ ∃ n, w' = w.drewN n := by
  by_cases h0 : 0 < s.size
  · have hne1 : ¬ s.toList = [] := by
      rw [Go.ByteArray.toList_eq]
      intro e
      have := toList_len s
      rw [e] at this
      simp at this
      omega
    have hne2 : s.toList.isEmpty = false := by
      cases e : s.toList with
      | nil => exact absurd e hne1
      | cons a l => rfl
    have e32 : ((⟨#[32]⟩ : ByteArray)[0].toNat : Int) = 32 := rfl
    have he := Lib.hid (show tL (strOf (tR s.data.toList)).data.toList = tR (tL s.data.toList) from by rw [strOf_toList, trims])
    go_enter Tryd.func45, Tryd.ntmps45
    go_wp2_with fail
    go_quiet (first | (go_at_call 60; exact Calls.quiet_of_same (trimRightByte s _ hs)) | (go_at_call 59; exact Calls.quiet_of_same (trimLeftByte _ _)))
    go_wp2_with fail
    go_ret
    exact ⟨ret_str (by rw [he.out]), _, rfl⟩
  · have : s.data.toList = [] := List.eq_nil_of_length_eq_zero (by rw [toList_len]; omega)
    have hs : s = ⟨#[]⟩ := by rw [← strOf_data s, this]; rfl
    subst hs
    go_enter Tryd.func45, Tryd.ntmps45
    go_wp2_with fail
    go_ret
    exact ⟨rfl, 0, rfl⟩
theorem trimScan (s : ByteArray) (w : World) (hs : s.size ≤ maxLen) : Calls Tryd.prog 25 #[.string s] w fun e w' => e = .returned (.string (strOf (tR (tL (bare s).data.toList)))) ∧ ∃ n, w' = w.drewN n := by
  have hb : (bare s).size ≤ maxLen := Nat.le_trans (bare_size s) hs
  have hbare := Lib.hid (uncommented s w hs)
  generalize bare s = t at *
  go_enter Tryd.func25, Tryd.ntmps25
  go_wp2_with (go_at_call 46; refine hbare.out.mono ?_; rintro e w' ⟨rfl, n, rfl⟩)
  refine (trimS t _ hb).mono ?_
  rintro e w' ⟨rfl, m, rfl⟩
  go_wp2_with fail
  go_ret
  exact ⟨rfl, n + m, rfl⟩
end Go.Proofs.YtpdgjkjbimkmjaaDoor.Trim
