/- The walk of the law ScanLines. -/
import Derived.Test.YtpdgjkjbimkmjaaDoorLinesScan
import Derived.Test.YtpdgjkjbimkmjaaDoorLives2
namespace Go.Proofs.YtpdgjkjbimkmjaaDoor.ScanLinesW
open Go.RowKit Go.Sort Go.Proofs Go.Proofs.YtpdgjkjbimkmjaaDoor.Plain Go.Proofs.YtpdgjkjbimkmjaaDoor.Leaf Go.Proofs.YtpdgjkjbimkmjaaDoor.Named Go.Proofs.YtpdgjkjbimkmjaaDoor.Scan2 Go.Proofs.YtpdgjkjbimkmjaaDoor.Trim Go.Proofs.YtpdgjkjbimkmjaaDoor.TabP Go.Proofs.YtpdgjkjbimkmjaaDoor.Tab1 Go.Proofs.YtpdgjkjbimkmjaaDoor.Tab2 Go.Proofs.YtpdgjkjbimkmjaaDoor.Tab3 Go.Proofs.YtpdgjkjbimkmjaaDoor.Tab4 Go.Proofs.YtpdgjkjbimkmjaaDoor.Tab5 Go.Proofs.YtpdgjkjbimkmjaaDoor.Lines1 Go.Proofs.YtpdgjkjbimkmjaaDoor.LinesScan Go.Proofs.YtpdgjkjbimkmjaaDoor.Lives2
/-- The lines, each with a newline behind it. -/
def joined (L : List Str) : Str := L.flatMap fun l => l ++ [10]
theorem joined_lnA (acc l : Str) : joined (lnA acc l) = acc ++ l ∨ joined (lnA acc l) = acc ++ l ++ [10] := by
  induction l generalizing acc with
  | nil =>
    unfold lnA
    split
    · rename_i h; left; rw [h]; rfl
    · right; simp [joined]
  | cons c l ih =>
    unfold lnA
    split
    · rename_i h
      subst h
      have e : joined (acc :: lnA [] l) = acc ++ [10] ++ joined (lnA [] l) := by simp [joined]
      rw [e]
      rcases ih [] with h | h
      · left; rw [h]; simp
      · right; rw [h]; simp
    · rcases ih (acc ++ [c]) with h | h
      · left; rw [h]; simp
      · right; rw [h]; simp
theorem joined_take {L : List Str} {k : Nat} (h : k < L.length) : joined (L.take (k + 1)) = joined (L.take k) ++ (L[k] ++ [10]) := by
  unfold joined
  rw [List.take_add_one, List.getElem?_eq_getElem h, List.flatMap_append]
  show _ ++ List.flatMap _ [L[k]] = _
  rw [List.flatMap_cons, List.flatMap_nil, List.append_nil]
theorem mem_lnA (acc l x : Str) (h : x ∈ lnA acc l) : x.length ≤ acc.length + l.length := by
  induction l generalizing acc with
  | nil =>
    unfold lnA at h
    split at h
    · simp at h
    · rw [List.mem_singleton] at h; subst h; simp
  | cons c l ih =>
    unfold lnA at h
    split at h
    · rcases List.mem_cons.1 h with e | e
      · subst e; rw [List.length_cons]; omega
      · have := ih [] e; simp at this ⊢; omega
    · have := ih _ h; simp at this ⊢; omega
theorem bytes_ext {a b : ByteArray} (h : a.data.toList = b.data.toList) : a = b := by
  apply ByteArray.ext
  exact Array.ext' h
set_option maxHeartbeats 1000000 in
set_option maxRecDepth 100000 in
theorem walk (s : ByteArray) (w : World) (hs : s.size ≤ maxLen) : Calls Tryd.prog 6 #[.string s] w fun e w' => e = .returned (.bool true) ∧ Below w.heap.size w w' := by
  unfold maxLen at hs
  go_enter Tryd.func6, Tryd.ntmps6
  go_wp2_with fail
  have hsz : (s.extract 0 (min (s.size : Int) 1000).toNat).size ≤ 1000 := by
    rw [ByteArray.size_extract]; omega
  generalize s.extract 0 (min (s.size : Int) 1000).toNat = t at *
  refine (linesScan t _ (by omega)).mono ?_
  rintro e w1 ⟨v1, rfl, hown1, hb1⟩
  obtain ⟨A1, c1, rfl, _, hr1⟩ := SRow.of_own hown1
  clear hown1
  go_wp2_with fail
  refine (linesRef t _ (by omega)).mono ?_
  rintro e w2 ⟨v2, rfl, hown2, hb2⟩
  obtain ⟨A2, c2, rfl, _, hr2⟩ := SRow.of_own hown2
  have hr1' := hr1.keep hb2
  have hbel2 := hb1.trans (hb2.mono hb1.size)
  have hll : (linesOf t).length ≤ 1001 := by have := linesOf_len t; omega
  have hmem : Hid (∀ x ∈ linesOf t, x.length ≤ 1000) := Lib.hid fun x hx => by
    have := mem_lnA [] _ x hx
    rw [toList_len] at this
    simp at this
    omega
  have hj := Lib.hid (joined_lnA [] t.data.toList)
  rw [List.nil_append, show lnA [] t.data.toList = linesOf t from rfl] at hj
  clear hown2 hb1 hb2 hr1
  generalize linesOf t = L at *
  go_wp2_with fail
  refine (same A1 A2 c1 c2 L _ (by omega) hr1' hr2).mono ?_
  rintro e w3 ⟨rfl, q, rfl⟩
  have hbel3 := below_drewN hbel2 q
  have HR := Lib.hid (hr1'.drewN q)
  clear hbel2 hr1' hr2
  generalize w2.drewN q = w3 at *
  go_wp2_with fail
  go_loopw [4, 21] (fun al i wr => ∃ (k : Nat) (b : ByteArray), k ≤ L.length ∧ i = .int .i64 k ∧ al = .string b ∧ b.size ≤ k * 1001 ∧ Hid (b.data.toList = joined (L.take k)) ∧ Below w3.heap.size w3 wr) (fun _ i _ => L.length - (intOf i).toNat)
  case atStart => exact ⟨0, ⟨#[]⟩, by omega, rfl, rfl, Nat.zero_le _, Lib.hid rfl, Below.refl _ _⟩
  case round =>
    obtain ⟨k, b, hk, rfl, rfl, hbs, hb, hbel⟩ := hrel
    by_cases hlt : k < L.length
    · obtain ⟨g, off, rfl, hg1, hcell⟩ := HR.out (by omega)
      obtain ⟨sb, hsb⟩ : ∃ sb : ByteArray, sb = ⟨L[k].toArray⟩ := ⟨_, rfl⟩
      have hx : wr.cell? ⟨g, off + k, none⟩ = some (.string sb) := by rw [hsb]; exact (hbel.cell (p := ⟨g, off + k, none⟩) hg1).trans (hcell k hlt)
      have hsl : sb.size ≤ 1000 := by
        have := hmem.out _ (List.getElem_mem hlt)
        rw [hsb]
        exact this
      have hn : Hid ((b ++ (sb ++ ⟨#[10]⟩)).data.toList = joined (L.take (k + 1))) := Lib.hid (by
        rw [joined_take hlt, ← hb.out, hsb]
        simp)
      have hns : (b ++ (sb ++ ⟨#[10]⟩)).size ≤ (k + 1) * 1001 := by
        rw [ByteArray.size_append, ByteArray.size_append]
        show b.size + (sb.size + 1) ≤ _
        omega
      have hbb : b.size ≤ 2000000 := by omega
      have hsm : sb.size ≤ maxLen := by unfold maxLen; omega
      clear hcell hsb hb
      go_wp2_with fail
      refine (trimScan sb _ hsm).mono ?_
      rintro e w' ⟨rfl, n1, rfl⟩
      have hbel2 := below_drewN hbel n1
      clear hbel hx
      generalize wr.drewN n1 = wr2 at *
      go_wp2_with fail
      refine (trimRef sb _ hsm).mono ?_
      rintro e w' ⟨rfl, rfl⟩
      generalize strOf (tR (tL (bare sb).data.toList)) = tt at *
      go_wp2_with fail
      go_roundw
      case rel => exact ⟨k + 1, _, by omega, by go_num, rfl, hns, hn, hbel2⟩
      case measure => simp [intOf]; omega
    · have e : k = L.length := by omega
      subst e
      rw [List.take_length] at hb
      rcases hj.out with h | h
      · have e : b = t := bytes_ext (hb.out.trans h)
        subst e
        clear hb h hlt hk hbs hj
        go_wp2_with (go_at_call 27; refine (lives _).mono ?_; rintro e w4 ⟨rfl, hb4⟩)
        all_goals
          go_ret
          exact ⟨rfl, hbel3.trans ((hbel.trans (hb4.mono hbel.size)).mono hbel3.size)⟩
      · have e : b = t ++ ⟨#[10]⟩ := bytes_ext (by rw [hb.out, h]; simp)
        subst e
        clear hb h hlt hk hbs hj
        go_wp2_with (go_at_call 27; refine (lives _).mono ?_; rintro e w4 ⟨rfl, hb4⟩)
        all_goals
          go_ret
          exact ⟨rfl, hbel3.trans ((hbel.trans (hb4.mono hbel.size)).mono hbel3.size)⟩
end Go.Proofs.YtpdgjkjbimkmjaaDoor.ScanLinesW
