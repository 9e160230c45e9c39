/- The text of tokens. -/
import Derived.Test.YtpdgjkjbimkmjaaDoorTkRow
import Derived.Test.YtpdgjkjbimkmjaaDoorBuild
namespace Go.Proofs.YtpdgjkjbimkmjaaDoor.Print
open Go.RowKit Go.Proofs.YtpdgjkjbimkmjaaDoor.Plain Go.Proofs.YtpdgjkjbimkmjaaDoor.Scan3 Go.Proofs.YtpdgjkjbimkmjaaDoor.Scan5 Go.Proofs.YtpdgjkjbimkmjaaDoor.Build
def kindAt (L : List Tk) (k : Nat) : Int := (L[k]?.map Tk.kind).getD 0
def textAt (L : List Tk) (k : Nat) : List UInt8 := (L[k]?.map (fun t => t.text.data.toList)).getD []
def gap (L : List Tk) (k : Nat) : List UInt8 := if 0 < k ∧ kindAt L k ≠ 3 ∧ kindAt L (k - 1) ≠ 3 then [32] else []
/-- The text of the first k tokens. -/
def pr (L : List Tk) : Nat → List UInt8
  | 0 => []
  | k + 1 => pr L k ++ gap L k ++ textAt L k
theorem kindAt_eq {L : List Tk} {k : Nat} (h : k < L.length) : kindAt L k = L[k].kind := by
  unfold kindAt; rw [List.getElem?_eq_getElem h]; rfl
theorem textAt_eq {L : List Tk} {k : Nat} (h : k < L.length) : textAt L k = L[k].text.data.toList := by
  unfold textAt; rw [List.getElem?_eq_getElem h]; rfl
theorem gap_len (L : List Tk) (k : Nat) : (gap L k).length ≤ 1 := by
  unfold gap; split <;> simp
theorem pr_len (L : List Tk) (h : ∀ t ∈ L, t.text.size ≤ 1000000) (k : Nat) (hk : k ≤ L.length) : (pr L k).length ≤ k * 1000001 := by
  induction k with
  | zero => simp [pr]
  | succ k ih =>
    have h1 := ih (by omega)
    have h2 := gap_len L k
    have h3 := h L[k] (List.getElem_mem _)
    unfold pr
    rw [List.length_append, List.length_append, textAt_eq (by omega), toList_len]
    omega
set_option maxHeartbeats 800000 in
set_option maxRecDepth 100000 in
theorem print (A : Option Addr) (ca : Nat) (L : List Tk) (w : World) (hL : L.length ≤ 10000) (hs : ∀ t ∈ L, t.text.size ≤ 1000000) (hA : TkRow w A L) :
    Calls Tryd.prog 49 #[.slice A L.length ca] w fun e w' => e = .returned (.string ⟨(pr L L.length).toArray⟩) ∧ Below w.heap.size w w' := by
  go_enter Tryd.func49, Tryd.ntmps49
  go_wp2
  go_loopw [8] (fun i wr => ∃ k : Nat, k ≤ L.length ∧ i = .int .i64 k ∧ IsB w.heap.size w.heap.size (Lib.byteCells (pr L k)) wr ∧ Below w.heap.size w wr) (fun i _ => L.length - (intOf i).toNat)
  case atStart => exact ⟨0, by omega, rfl, Lib.fresh_isBuilder _ _ _, (Below.refl _ _).alloc (Nat.le_refl _) _⟩
  case round =>
    obtain ⟨k, hk, rfl, hB, hbel⟩ := hrel
    by_cases hlt : k < L.length
    · have hA' := hA.below hbel
      obtain ⟨g1, rfl, hg1, h1⟩ := hA' (by omega)
      clear hA
      rcases k with _ | j
      ·
        obtain ⟨a1, b1, c1⟩ := h1 0 hlt
        have hB1 := IsB.alloc hB (.cells #[.int .i64 L[0].kind, .string L[0].text, .int .i64 L[0].col] 60)
        have hnew := heap_alloc_new wr (.cells #[.int .i64 L[0].kind, .string L[0].text, .int .i64 L[0].col] 60)
        have hpl := pr_len L hs 0 (by omega)
        have htl := hs L[0] (List.getElem_mem _)
        have Hpr : Hid (pr L (0 + 1) = pr L 0 ++ L[0].text.data.toList) := Lib.hid (by rw [← textAt_eq hlt]; simp [pr, gap])
        clear h1
        go_wp2_with (go_at_call 69; refine (writeString w.heap.size w.heap.size _ _ _ hB1 (by rw [Lib.byteCells_length]; omega) (by have := hbel.size; simp; omega)).mono ?_)
        rintro e w2 ⟨rfl, hB4, hbel4, _⟩
        have hbel3 := hbel.alloc hbel.size (.cells #[.int .i64 L[0].kind, .string L[0].text, .int .i64 L[0].col] 60)
        have hnext : IsB w.heap.size w.heap.size (Lib.byteCells (pr L (0 + 1))) w2 := .inr (by rw [Hpr.out, Lib.byteCells_append]; exact hB4)
        have hbel5 := hbel3.trans hbel4
        clear hB4 hbel4 hbel3 hB1
        go_wp2_with fail
        go_roundw
        case rel => exact ⟨0 + 1, by omega, by go_num, hnext, hbel5⟩
        case measure => simp [intOf]; omega
      · have hj := h1 j (by omega)
        obtain ⟨p1, p2, p3⟩ := hj
        obtain ⟨a1, b1, c1⟩ := h1 (j + 1) hlt
        have hB1 := IsB.alloc hB (.cells #[.int .i64 L[j + 1].kind, .string L[j + 1].text, .int .i64 L[j + 1].col] 60)
        have hnew := heap_alloc_new wr (.cells #[.int .i64 L[j + 1].kind, .string L[j + 1].text, .int .i64 L[j + 1].col] 60)
        have hpl := pr_len L hs (j + 1) (by omega)
        have htl := hs L[j + 1] (List.getElem_mem _)
        clear h1
        by_cases hk3 : L[j + 1].kind = 3
        · have e3 : (L[j + 1].kind != 3) = false := by simpa using hk3
          have Hpr : Hid (pr L (j + 1 + 1) = pr L (j + 1) ++ L[j + 1].text.data.toList) := Lib.hid (by
            rw [← textAt_eq hlt]
            show pr L (j + 1) ++ gap L (j + 1) ++ textAt L (j + 1) = _
            have : gap L (j + 1) = [] := by unfold gap; rw [if_neg]; rintro ⟨_, h, _⟩; exact h (by rw [kindAt_eq hlt]; exact hk3)
            rw [this, List.append_nil])
          clear hk3
          go_wp2_with (go_at_call 69; refine (writeString w.heap.size w.heap.size _ _ _ hB1 (by rw [Lib.byteCells_length]; omega) (by have := hbel.size; simp; omega)).mono ?_)
          rintro e w2 ⟨rfl, hB4, hbel4, _⟩
          have hbel3 := hbel.alloc hbel.size (.cells #[.int .i64 L[j + 1].kind, .string L[j + 1].text, .int .i64 L[j + 1].col] 60)
          have hnext : IsB w.heap.size w.heap.size (Lib.byteCells (pr L ((j + 1) + 1))) w2 := .inr (by rw [Hpr.out, Lib.byteCells_append]; exact hB4)
          have hbel5 := hbel3.trans hbel4
          clear hB4 hbel4 hbel3 hB1
          go_wp2_with fail
          go_roundw
          case rel => exact ⟨(j + 1) + 1, by omega, by go_num, hnext, hbel5⟩
          case measure => simp [intOf]; omega
        · have e3 : (L[j + 1].kind != 3) = true := by simpa using hk3
          by_cases hj3 : L[j].kind = 3
          · have e4 : (L[j].kind != 3) = false := by simpa using hj3
            have Hpr : Hid (pr L (j + 1 + 1) = pr L (j + 1) ++ L[j + 1].text.data.toList) := Lib.hid (by
              rw [← textAt_eq hlt]
              show pr L (j + 1) ++ gap L (j + 1) ++ textAt L (j + 1) = _
              have : gap L (j + 1) = [] := by unfold gap; rw [if_neg]; rintro ⟨_, _, h⟩; exact h (by rw [show j + 1 - 1 = j from rfl, kindAt_eq (by omega)]; exact hj3)
              rw [this, List.append_nil])
            clear hk3 hj3
            go_wp2_with (go_at_call 69; refine (writeString w.heap.size w.heap.size _ _ _ hB1 (by rw [Lib.byteCells_length]; omega) (by have := hbel.size; simp; omega)).mono ?_)
            rintro e w2 ⟨rfl, hB4, hbel4, _⟩
            have hbel3 := hbel.alloc hbel.size (.cells #[.int .i64 L[j + 1].kind, .string L[j + 1].text, .int .i64 L[j + 1].col] 60)
            have hnext : IsB w.heap.size w.heap.size (Lib.byteCells (pr L ((j + 1) + 1))) w2 := .inr (by rw [Hpr.out, Lib.byteCells_append]; exact hB4)
            have hbel5 := hbel3.trans hbel4
            clear hB4 hbel4 hbel3 hB1
            go_wp2_with fail
            go_roundw
            case rel => exact ⟨(j + 1) + 1, by omega, by go_num, hnext, hbel5⟩
            case measure => simp [intOf]; omega
          · have e4 : (L[j].kind != 3) = true := by simpa using hj3
            have Hpr : Hid (pr L (j + 1 + 1) = pr L (j + 1) ++ [32] ++ L[j + 1].text.data.toList) := Lib.hid (by
              rw [← textAt_eq hlt]
              show pr L (j + 1) ++ gap L (j + 1) ++ textAt L (j + 1) = _
              have : gap L (j + 1) = [32] := by unfold gap; rw [if_pos ⟨by omega, by rw [kindAt_eq hlt]; exact hk3, by rw [show j + 1 - 1 = j from rfl, kindAt_eq (by omega)]; exact hj3⟩]
              rw [this])
            clear hk3 hj3
            go_wp2_with (go_at_call 68; refine (writeByte w.heap.size w.heap.size _ _ _ hB1 (by rw [Lib.byteCells_length]; omega) (by have := hbel.size; simp; omega)).mono ?_)
            rintro e w1 ⟨rfl, hB2, hbel2, hk2⟩
            have hn2 := OK.cells hk2 hnew (by have := IsB.lt hB; omega) (by decide)
            have ht2 : w1.cell? ⟨wr.heap.size, 1, none⟩ = some (.string L[j + 1].text) := by rw [Lib.cell_of_heap hn2]; rfl
            have hbel3 : Below w.heap.size w w1 := (hbel.alloc hbel.size _).trans hbel2
            have hB3 : IsB w.heap.size w.heap.size (Lib.byteCells (pr L (j + 1) ++ [32])) w1 := .inr (by rw [Lib.byteCells_append]; exact hB2)
            clear hB2 hbel2 hk2 hn2
            go_wp2_with (go_at_call 69; refine (writeString w.heap.size w.heap.size _ _ _ hB3 (by rw [Lib.byteCells_length, List.length_append]; simp; omega) hbel3.size).mono ?_)
            rintro e w2 ⟨rfl, hB4, hbel4, _⟩
            have hnext : IsB w.heap.size w.heap.size (Lib.byteCells (pr L ((j + 1) + 1))) w2 := .inr (by rw [Hpr.out, Lib.byteCells_append]; exact hB4)
            have hbel5 := hbel3.trans hbel4
            clear hB4 hbel4 hbel3 hB1
            go_wp2_with fail
            go_roundw
            case rel => exact ⟨(j + 1) + 1, by omega, by go_num, hnext, hbel5⟩
            case measure => simp [intOf]; omega
    · go_wp2_with (go_at_call 70; refine (Tryd.Builder_String_any _ _ _ _ hB hbel.size).mono ?_; rintro e w' ⟨rfl, hb⟩)
      go_ret
      have e : k = L.length := by omega
      subst e
      exact ⟨rfl, hbel.trans hb⟩
end Go.Proofs.YtpdgjkjbimkmjaaDoor.Print
