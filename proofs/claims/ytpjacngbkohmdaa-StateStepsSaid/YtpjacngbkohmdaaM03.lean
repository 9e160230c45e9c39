/- Roles: which are right, their texts, how two stand. -/
import Derived.Test.YtpjacngbkohmdaaM01
import Derived.Test.YtpjacngbkohmdaaM02
import Derived.Test.YtpjacngbkohmdaaShelf
import Derived.Outline
import Derived.WalkLawsBesides
import Derived.WalkSpells
import Derived.Deep.QuietTactic
import Derived.BigQuiet
import Derived.Sort.Walk0
import Derived.Sort.Statements
import Derived.Shelf.SlSortCmp.Insertion
import Derived.Deep.RegionHeld3
namespace Go.Proofs.Ytpjacngbkohmdaa.Syn1
set_option linter.unusedVariables false
set_option linter.unusedSimpArgs false
open Go.RowKit Go.Sort Go.Proofs Go.Proofs.Ytpjacngbkohmdaa.Plain Go.Proofs.Ytpjacngbkohmdaa.SynP Go.Proofs.Ytpjacngbkohmdaa.Named Go.Proofs.Ytpjacngbkohmdaa.RefN Go.Proofs.Ytpjacngbkohmdaa.Grown
theorem isRole (r : Rl) (w : World) (h : r.light) : Calls Try.prog 57 #[r.val] w fun e w' => e = .returned (.bool r.ok) ∧ Grew w w' := by
  obtain ⟨o, n⟩ := r
  obtain ⟨h1, h2⟩ := h
  simp only at h1 h2
  cases e1 : named capB o.data.toList
  all_goals
    have He := Lib.hid e1
    clear e1
    unfold Rl.val
    go_enter Try.func57, Try.ntmps57
    go_wp2_with (first | (go_at_call 74; refine (isPrin _ _ h1).mono ?_; rintro e w' ⟨rfl, rfl⟩; rw [He.out]) | (go_at_call 75; refine (isName _ _ h2).mono ?_; rintro e w' ⟨rfl, rfl⟩))
    go_ret
    exact ⟨ret_bool (by unfold Rl.ok; simp only [He.out]; rfl), (Grew.refl _).alloc _⟩
theorem isRoleRef (r : Rl) (w : World) (h : r.light) : Calls Try.prog 33 #[r.val] w fun e w' => e = .returned (.bool r.ok) ∧ Grew w w' := by
  obtain ⟨o, n⟩ := r
  obtain ⟨h1, h2⟩ := h
  simp only at h1 h2
  cases e1 : named capB o.data.toList
  all_goals
    have He := Lib.hid e1
    clear e1
    unfold Rl.val
    go_enter Try.func33, Try.ntmps33
    go_wp2_with (first | (go_at_call 34; refine (refIsPrin _ _ h1).mono ?_; rintro e w' ⟨rfl, rfl⟩; rw [He.out]) | (go_at_call 35; refine (refIsName _ _ h2).mono ?_; rintro e w' ⟨rfl, rfl⟩))
    go_ret
    exact ⟨ret_bool (by unfold Rl.ok; simp only [He.out]; rfl), (Grew.refl _).alloc _⟩
theorem isNaN (a : ByteArray) (w : World) : Calls Try.prog 94 #[.string a] w fun e w' => e = .returned (.bool false) ∧ w = w' := by
  go_enter Try.func94, Try.ntmps94
  go_wp2
  go_ret
  exact ⟨rfl, rfl⟩
theorem less_eq (a b : ByteArray) : Op.bytesLess a.toList b.toList = strLt a b := by
  rw [bytesLess_eq, Go.ByteArray.toList_eq, Go.ByteArray.toList_eq]; rfl
theorem same_eq (a b : ByteArray) : (a.toList == b.toList) = decide (a = b) := by
  rw [Bool.eq_iff_iff, decide_eq_true_iff, beq_iff_eq, Go.ByteArray.toList_eq, Go.ByteArray.toList_eq]
  exact ⟨ba_ext, fun h => by rw [h]⟩
theorem compareS (a b : ByteArray) (w : World) : Calls Try.prog 84 #[.string a, .string b] w fun e w' => e = .returned (.int .i64 (cmpB a b)) ∧ w = w' := by
  cases h1 : strLt a b
  · cases h2 : strLt b a
    · have H : Hid (cmpB a b = 0) := Lib.hid (by unfold cmpB; rw [h1, h2]; rfl)
      have h3 : (a.toList == b.toList) = true := by rw [same_eq]; exact decide_eq_true (strLt_total h1 h2)
      rw [← less_eq] at h1 h2
      go_enter Try.func84, Try.ntmps84
      go_wp2_with (go_at_call 94; refine (isNaN _ _).mono ?_; rintro e w' ⟨rfl, rfl⟩)
      go_ret
      exact ⟨ret_int H.out.symm, rfl⟩
    · have H : Hid (cmpB a b = 1) := Lib.hid (by unfold cmpB; rw [h1, h2]; rfl)
      have h3 : (a.toList == b.toList) = false := by rw [same_eq]; exact decide_eq_false (by rintro rfl; rw [strLt_irrefl] at h2; cases h2)
      rw [← less_eq] at h1 h2
      go_enter Try.func84, Try.ntmps84
      go_wp2_with (go_at_call 94; refine (isNaN _ _).mono ?_; rintro e w' ⟨rfl, rfl⟩)
      go_ret
      exact ⟨ret_int H.out.symm, rfl⟩
  · have H : Hid (cmpB a b = -1) := Lib.hid (by unfold cmpB; rw [h1]; rfl)
    rw [← less_eq] at h1
    go_enter Try.func84, Try.ntmps84
    go_wp2_with (go_at_call 94; refine (isNaN _ _).mono ?_; rintro e w' ⟨rfl, rfl⟩)
    go_ret
    exact ⟨ret_int H.out.symm, rfl⟩
theorem compareN (a b : Int) (w : World) : Calls Try.prog 83 #[.int .i64 a, .int .i64 b] w fun e w' => e = .returned (.int .i64 (cmpN a b)) ∧ w = w' :=
  (Try.cmp_Compare_int a b w).mono fun _ _ ⟨he, hw⟩ => ⟨he, hw.symm⟩
/-- The first that isn't 0, of a row of numbers. -/
def IRow (w : World) (g : Nat) (l : List Int) : Prop := g < w.heap.size ∧ ∀ k, (h : k < l.length) → w.cell? ⟨g, k, none⟩ = some (.int .i64 l[k])
theorem orL_skip {l : List Int} {k : Nat} (h : k < l.length) (h0 : l[k] = 0) : orL (l.drop k) = orL (l.drop (k + 1)) := by
  rw [List.drop_eq_getElem_cons h]; simp [orL, h0]
theorem orL_stop {l : List Int} {k : Nat} (h : k < l.length) (h0 : l[k] ≠ 0) : orL (l.drop k) = l[k] := by
  rw [List.drop_eq_getElem_cons h]; simp [orL, h0]
theorem or_ (g cap : Nat) (l : List Int) (w : World) (hl : l.length ≤ 1000) (hr : IRow w g l) : Calls Try.prog 81 #[.slice (some ⟨g, 0, none⟩) l.length cap] w fun e w' => e = .returned (.int .i64 (orL l)) ∧ w = w' := by
  go_enter Try.func81, Try.ntmps81
  go_wp2
  go_loop [8] (fun i => ∃ k : Nat, k ≤ l.length ∧ i = .int .i64 k ∧ Hid (orL l = orL (l.drop k))) (fun i => l.length - (intOf i).toNat)
  case atStart => exact ⟨0, by omega, rfl, Lib.hid (by simp)⟩
  case round =>
    obtain ⟨k, hk, rfl, hrun⟩ := hrel
    by_cases hlt : k < l.length
    · have hc := hr.2 k hlt
      by_cases h0 : l[k] = 0
      · have hnext : Hid (orL l = orL (l.drop (k + 1))) := Lib.hid (by rw [hrun.out, orL_skip hlt h0])
        rw [h0] at hc
        clear hrun h0
        go_wp2_with fail
        go_round
        case rel => exact ⟨k + 1, by omega, by go_num, hnext⟩
        case measure => simp [intOf]; omega
      · have hfin : Hid (orL l = l[k]) := Lib.hid (by rw [hrun.out, orL_stop hlt h0])
        have h1 : (l[k] != 0) = true := by simpa using h0
        clear hrun h0
        go_wp2_with fail
        go_ret
        exact ⟨ret_int hfin.out.symm, rfl⟩
    · have hfin : Hid (orL l = 0) := Lib.hid (by rw [hrun.out, List.drop_of_length_le (by omega)]; rfl)
      clear hrun
      go_wp2_with fail
      go_ret
      exact ⟨ret_int hfin.out.symm, rfl⟩
end Go.Proofs.Ytpjacngbkohmdaa.Syn1
/- Equality of two roles, and of two statements, as the program's operators tell it. -/
namespace Go.Proofs.Ytpjacngbkohmdaa.SynE
set_option linter.unusedVariables false
set_option linter.unusedSimpArgs false
open Go.RowKit Go.Sort Go.Proofs Go.Proofs.Ytpjacngbkohmdaa.Plain Go.Proofs.Ytpjacngbkohmdaa.SynP Go.Proofs.Ytpjacngbkohmdaa.Syn1
set_option linter.unusedSimpArgs false
theorem text_eq (a b : ByteArray) : (a.toList = b.toList) = (a = b) := by
  rw [Go.ByteArray.toList_eq, Go.ByteArray.toList_eq]; exact propext ⟨ba_ext, fun h => by rw [h]⟩
set_option maxHeartbeats 1000000 in
set_option maxRecDepth 100000 in
theorem eqS (k : Int) (ho hn wh ao an bo bn v : ByteArray) (k2 : Int) (ho2 hn2 wh2 ao2 an2 bo2 bn2 v2 : ByteArray) (w : World) :
    (binOp .eql 26 (.agg #[.int .i64 k, .string ho, .string hn, .string wh, .string ao, .string an, .string bo, .string bn, .string v]) (.agg #[.int .i64 k2, .string ho2, .string hn2, .string wh2, .string ao2, .string an2, .string bo2, .string bn2, .string v2])).run Try.prog w = .ok (.bool (decide ((⟨k, ⟨ho, hn⟩, wh, ⟨ao, an⟩, ⟨bo, bn⟩, v⟩ : St) = ⟨k2, ⟨ho2, hn2⟩, wh2, ⟨ao2, an2⟩, ⟨bo2, bn2⟩, v2⟩))) w := by
  have e := text_eq
  simp only [go_sem, St.mk.injEq, Rl.mk.injEq, same_eq]
  go_simp
  by_cases h0 : k = k2
  rotate_left
  · simp [h0]
  subst h0
  by_cases h1 : ho = ho2
  rotate_left
  · simp [h1]
  subst h1
  by_cases h2 : hn = hn2
  rotate_left
  · simp [h2]
  subst h2
  by_cases h3 : wh = wh2
  rotate_left
  · simp [h3]
  subst h3
  by_cases h4 : ao = ao2
  rotate_left
  · simp [h4]
  subst h4
  by_cases h5 : an = an2
  rotate_left
  · simp [h5]
  subst h5
  by_cases h6 : bo = bo2
  rotate_left
  · simp [h6]
  subst h6
  by_cases h7 : bn = bn2
  rotate_left
  · simp [h7]
  subst h7
  by_cases h8 : v = v2
  rotate_left
  · simp [h8]
  subst h8
  simp
set_option maxHeartbeats 1000000 in
theorem eqR (o n o2 n2 : ByteArray) (w : World) : (binOp .eql 24 (.agg #[.string o, .string n]) (.agg #[.string o2, .string n2])).run Try.prog w = .ok (.bool (decide ((⟨o, n⟩ : Rl) = ⟨o2, n2⟩))) w := by
  have e := text_eq
  simp only [go_sem, Rl.mk.injEq, same_eq]
  go_simp
  by_cases h0 : o = o2
  rotate_left
  · simp [h0]
  subst h0
  by_cases h1 : n = n2
  rotate_left
  · simp [h1]
  subst h1
  simp
set_option maxHeartbeats 1000000 in
set_option maxRecDepth 100000 in
theorem neS (k : Int) (ho hn wh ao an bo bn v : ByteArray) (k2 : Int) (ho2 hn2 wh2 ao2 an2 bo2 bn2 v2 : ByteArray) (w : World) :
    (binOp .neq 26 (.agg #[.int .i64 k, .string ho, .string hn, .string wh, .string ao, .string an, .string bo, .string bn, .string v]) (.agg #[.int .i64 k2, .string ho2, .string hn2, .string wh2, .string ao2, .string an2, .string bo2, .string bn2, .string v2])).run Try.prog w = .ok (.bool (!decide ((⟨k, ⟨ho, hn⟩, wh, ⟨ao, an⟩, ⟨bo, bn⟩, v⟩ : St) = ⟨k2, ⟨ho2, hn2⟩, wh2, ⟨ao2, an2⟩, ⟨bo2, bn2⟩, v2⟩))) w := by
  have e := text_eq
  simp only [go_sem, St.mk.injEq, Rl.mk.injEq, same_eq]
  go_simp
  by_cases h0 : k = k2
  rotate_left
  · simp [h0]
  subst h0
  by_cases h1 : ho = ho2
  rotate_left
  · simp [h1]
  subst h1
  by_cases h2 : hn = hn2
  rotate_left
  · simp [h2]
  subst h2
  by_cases h3 : wh = wh2
  rotate_left
  · simp [h3]
  subst h3
  by_cases h4 : ao = ao2
  rotate_left
  · simp [h4]
  subst h4
  by_cases h5 : an = an2
  rotate_left
  · simp [h5]
  subst h5
  by_cases h6 : bo = bo2
  rotate_left
  · simp [h6]
  subst h6
  by_cases h7 : bn = bn2
  rotate_left
  · simp [h7]
  subst h7
  by_cases h8 : v = v2
  rotate_left
  · simp [h8]
  subst h8
  simp
set_option maxHeartbeats 1000000 in
theorem neR (o n o2 n2 : ByteArray) (w : World) : (binOp .neq 24 (.agg #[.string o, .string n]) (.agg #[.string o2, .string n2])).run Try.prog w = .ok (.bool (!decide ((⟨o, n⟩ : Rl) = ⟨o2, n2⟩))) w := by
  have e := text_eq
  simp only [go_sem, Rl.mk.injEq, same_eq]
  go_simp
  by_cases h0 : o = o2
  rotate_left
  · simp [h0]
  subst h0
  by_cases h1 : n = n2
  rotate_left
  · simp [h1]
  subst h1
  simp
end Go.Proofs.Ytpjacngbkohmdaa.SynE
/- Rows of statements: is one there, and are two the same. -/
namespace Go.Proofs.Ytpjacngbkohmdaa.SynD3
set_option linter.unusedVariables false
set_option linter.unusedSimpArgs false
open Go.RowKit Go.Sort Go.Proofs Go.Proofs.Ytpjacngbkohmdaa.Plain Go.Proofs.Ytpjacngbkohmdaa.SynP Go.Proofs.Ytpjacngbkohmdaa.SynE Go.Proofs.Ytpjacngbkohmdaa.SynD2
set_option linter.unusedVariables false
set_option linter.unusedSimpArgs false
/-- A slice value that reads as statements, from its block's begin. -/
def StRow (w : World) (A : Option Addr) (L : List St) : Prop :=
  0 < L.length → ∃ g, A = some ⟨g, 0, none⟩ ∧ g < w.heap.size ∧ ∀ j, (h : j < L.length) → w.cell? ⟨g, j * 9, none⟩ = some (.int .i64 L[j].kind) ∧ w.cell? ⟨g, j * 9 + 1, none⟩ = some (.string L[j].head.owner) ∧ w.cell? ⟨g, j * 9 + 2, none⟩ = some (.string L[j].head.name) ∧ w.cell? ⟨g, j * 9 + 3, none⟩ = some (.string L[j].who) ∧ w.cell? ⟨g, j * 9 + 4, none⟩ = some (.string L[j].a.owner) ∧ w.cell? ⟨g, j * 9 + 5, none⟩ = some (.string L[j].a.name) ∧ w.cell? ⟨g, j * 9 + 6, none⟩ = some (.string L[j].b.owner) ∧ w.cell? ⟨g, j * 9 + 7, none⟩ = some (.string L[j].b.name) ∧ w.cell? ⟨g, j * 9 + 8, none⟩ = some (.string L[j].via)
theorem StRow.of_own {w : World} {B : Nat} {e : TypeId} {v : Value} {L : List St} (h : w.ownsRow B e 9 v L.length (stCells L)) : ∃ A cap, v = .slice A L.length cap ∧ L.length ≤ cap ∧ StRow w A L := by
  rcases h.2 with ⟨rfl, h0⟩ | ⟨g, cap, cur, rfl, hB, hh, hc, hm, hs, ht⟩
  · exact ⟨none, 0, by rw [h0], by omega, fun hp => by omega⟩
  · refine ⟨_, _, rfl, hc, fun hp => ⟨g, rfl, (h.lt g rfl).2, fun j hj => ?_⟩⟩
    have key : ∀ k u, k < 9 → L[j].cells[k]? = some u → w.cell? ⟨g, j * 9 + k, none⟩ = some u := fun k u hk hu => by
      have q := (stCells_at L j k hj hk).trans hu
      rw [← ht, List.getElem?_take_of_lt (by omega)] at q
      rw [Lib.cell_of_heap hh, ← Array.getElem?_toList]
      exact q
    exact ⟨key 0 _ (by omega) rfl, key 1 _ (by omega) rfl, key 2 _ (by omega) rfl, key 3 _ (by omega) rfl, key 4 _ (by omega) rfl, key 5 _ (by omega) rfl, key 6 _ (by omega) rfl, key 7 _ (by omega) rfl, key 8 _ (by omega) rfl⟩
theorem StRow.below {w w' : World} {A : Option Addr} {L : List St} (h : StRow w A L) (hb : Below w.heap.size w w') : StRow w' A L := fun hp => by
  obtain ⟨g, hA, hg, hc⟩ := h hp
  refine ⟨g, hA, Nat.lt_of_lt_of_le hg hb.size, fun j hj => ?_⟩
  obtain ⟨a0, a1, a2, a3, a4, a5, a6, a7, a8⟩ := hc j hj
  exact ⟨(hb.cell (p := ⟨g, j * 9, none⟩) hg).trans a0, (hb.cell (p := ⟨g, j * 9 + 1, none⟩) hg).trans a1, (hb.cell (p := ⟨g, j * 9 + 2, none⟩) hg).trans a2, (hb.cell (p := ⟨g, j * 9 + 3, none⟩) hg).trans a3, (hb.cell (p := ⟨g, j * 9 + 4, none⟩) hg).trans a4, (hb.cell (p := ⟨g, j * 9 + 5, none⟩) hg).trans a5, (hb.cell (p := ⟨g, j * 9 + 6, none⟩) hg).trans a6, (hb.cell (p := ⟨g, j * 9 + 7, none⟩) hg).trans a7, (hb.cell (p := ⟨g, j * 9 + 8, none⟩) hg).trans a8⟩
set_option maxHeartbeats 1000000 in
set_option maxRecDepth 100000 in
theorem sameSt (A B : Option Addr) (ca cb : Nat) (L : List St) (w : World) (hL : L.length ≤ 1000) (hA : StRow w A L) (hB : StRow w B L) :
    Calls Try.prog 10 #[.slice A L.length ca, .slice B L.length cb] w fun e w' => e = .returned (.bool true) ∧ RowKit.Below w.heap.size w w' := by
  go_enter Try.func10, Try.ntmps10
  go_wp2
  go_loopw [13] (fun i wr => ∃ k : Nat, k ≤ L.length ∧ i = .int .i64 k ∧ ∃ n, wr = w.drewN n) (fun i _ => L.length - (intOf i).toNat)
  case atStart => exact ⟨0, by omega, rfl, 0, rfl⟩
  case round =>
    obtain ⟨k, hk, rfl, n, rfl⟩ := hrel
    by_cases hlt : k < L.length
    · obtain ⟨g1, rfl, _, h1⟩ := hA (by omega)
      obtain ⟨g2, rfl, _, h2⟩ := hB (by omega)
      obtain ⟨a0, a1, a2, a3, a4, a5, a6, a7, a8⟩ := h1 k hlt
      obtain ⟨b0, b1, b2, b3, b4, b5, b6, b7, b8⟩ := h2 k hlt
      have p1 : (0 : Int) ≤ k := by omega
      have p2 : (k : Int) < L.length := by omega
      have hq := fun w => neS L[k].kind L[k].head.owner L[k].head.name L[k].who L[k].a.owner L[k].a.name L[k].b.owner L[k].b.name L[k].via L[k].kind L[k].head.owner L[k].head.name L[k].who L[k].a.owner L[k].a.name L[k].b.owner L[k].b.name L[k].via w
      rw [decide_eq_true rfl] at hq
      clear h1 h2 hA hB
      go_wp2_with fail
      go_quiet (fail)
      go_wp2_with fail
      go_roundw
      case rel => exact ⟨k + 1, by omega, by go_num, _, rfl⟩
      case measure => simp [intOf]; omega
    · go_wp2_with fail
      go_ret
      exact ⟨rfl, below_drewN (Below.refl _ _) _⟩
set_option maxHeartbeats 1000000 in
set_option maxRecDepth 100000 in
theorem has (A : Option Addr) (ca : Nat) (L : List St) (s : St) (w : World) (hL : L.length ≤ 1000) (hA : StRow w A L) :
    Calls Try.prog 15 #[.slice A L.length ca, s.val] w fun e w' => e = .returned (.bool (decide (s ∈ L))) ∧ RowKit.Below w.heap.size w w' := by
  obtain ⟨k1, ⟨ho, hn⟩, wh, ⟨ao, an⟩, ⟨bo, bn⟩, v⟩ := s
  have hown : ∀ (wr : World), Below (w.heap.size + 1) (w.alloc (.cells #[.int .i64 k1, .string ho, .string hn, .string wh, .string ao, .string an, .string bo, .string bn, .string v] 26)) wr → wr.cell? ⟨w.heap.size, 0, none⟩ = some (.int .i64 k1) ∧ wr.cell? ⟨w.heap.size, 1, none⟩ = some (.string ho) ∧ wr.cell? ⟨w.heap.size, 2, none⟩ = some (.string hn) ∧ wr.cell? ⟨w.heap.size, 3, none⟩ = some (.string wh) ∧ wr.cell? ⟨w.heap.size, 4, none⟩ = some (.string ao) ∧ wr.cell? ⟨w.heap.size, 5, none⟩ = some (.string an) ∧ wr.cell? ⟨w.heap.size, 6, none⟩ = some (.string bo) ∧ wr.cell? ⟨w.heap.size, 7, none⟩ = some (.string bn) ∧ wr.cell? ⟨w.heap.size, 8, none⟩ = some (.string v) := fun wr hb => by
    refine ⟨?_, ?_, ?_, ?_, ?_, ?_, ?_, ?_, ?_⟩ <;> rw [hb.cell (by simp)] <;> rw [Lib.cell_of_heap (heap_alloc_new w _)] <;> rfl
  have HO := Lib.hid hown
  clear hown
  have HA := Lib.hid hA
  clear hA
  unfold St.val
  go_enter Try.func15, Try.ntmps15
  go_wp2_with fail
  go_loopw [9] (fun i wr => ∃ k : Nat, k ≤ L.length ∧ i = .int .i64 k ∧ Hid ((⟨k1, ⟨ho, hn⟩, wh, ⟨ao, an⟩, ⟨bo, bn⟩, v⟩ : St) ∉ L.take k) ∧ Below (w.heap.size + 1) (w.alloc (.cells #[.int .i64 k1, .string ho, .string hn, .string wh, .string ao, .string an, .string bo, .string bn, .string v] 26)) wr) (fun i _ => L.length - (intOf i).toNat)
  case atStart => exact ⟨0, by omega, rfl, Lib.hid (by simp), Below.refl _ _⟩
  case round =>
    obtain ⟨k, hk, rfl, hrun, hbel⟩ := hrel
    have hb0 : Below w.heap.size w wr := ((Below.refl w.heap.size w).alloc (Nat.le_refl _) _).trans (hbel.mono (by omega))
    have hsz : w.heap.size + 1 ≤ wr.heap.size := by have := hbel.size; simpa using this
    by_cases hlt : k < L.length
    · obtain ⟨g1, rfl, hg1, h1⟩ := (HA.out.below hb0) (by omega)
      obtain ⟨a0, a1, a2, a3, a4, a5, a6, a7, a8⟩ := h1 k hlt
      obtain ⟨b0, b1, b2, b3, b4, b5, b6, b7, b8⟩ := HO.out _ (hbel.alloc hsz (.cells #[.int .i64 L[k].kind, .string L[k].head.owner, .string L[k].head.name, .string L[k].who, .string L[k].a.owner, .string L[k].a.name, .string L[k].b.owner, .string L[k].b.name, .string L[k].via] 26))
      have p1 : (0 : Int) ≤ k := by omega
      have p2 : (k : Int) < L.length := by omega
      clear h1
      by_cases he : L[k] = (⟨k1, ⟨ho, hn⟩, wh, ⟨ao, an⟩, ⟨bo, bn⟩, v⟩ : St)
      · have hfin : Hid (decide ((⟨k1, ⟨ho, hn⟩, wh, ⟨ao, an⟩, ⟨bo, bn⟩, v⟩ : St) ∈ L) = true) := Lib.hid (decide_eq_true (he ▸ List.getElem_mem hlt))
        have hq := fun w => eqS L[k].kind L[k].head.owner L[k].head.name L[k].who L[k].a.owner L[k].a.name L[k].b.owner L[k].b.name L[k].via k1 ho hn wh ao an bo bn v w
        rw [decide_eq_true (p := (⟨L[k].kind, ⟨L[k].head.owner, L[k].head.name⟩, L[k].who, ⟨L[k].a.owner, L[k].a.name⟩, ⟨L[k].b.owner, L[k].b.name⟩, L[k].via⟩ : St) = ⟨k1, ⟨ho, hn⟩, wh, ⟨ao, an⟩, ⟨bo, bn⟩, v⟩) he] at hq
        clear hrun he
        go_wp2_with fail
        go_ret
        exact ⟨ret_bool hfin.out.symm, hb0.alloc hb0.size _⟩
      · have hnext : Hid ((⟨k1, ⟨ho, hn⟩, wh, ⟨ao, an⟩, ⟨bo, bn⟩, v⟩ : St) ∉ L.take (k + 1)) := Lib.hid (by
          rw [List.take_succ_eq_append_getElem hlt, List.mem_append, List.mem_singleton]
          rintro (h | h)
          · exact hrun.out h
          · exact he h.symm)
        have hq := fun w => eqS L[k].kind L[k].head.owner L[k].head.name L[k].who L[k].a.owner L[k].a.name L[k].b.owner L[k].b.name L[k].via k1 ho hn wh ao an bo bn v w
        rw [decide_eq_false (p := (⟨L[k].kind, ⟨L[k].head.owner, L[k].head.name⟩, L[k].who, ⟨L[k].a.owner, L[k].a.name⟩, ⟨L[k].b.owner, L[k].b.name⟩, L[k].via⟩ : St) = ⟨k1, ⟨ho, hn⟩, wh, ⟨ao, an⟩, ⟨bo, bn⟩, v⟩) he] at hq
        clear hrun he
        go_wp2_with fail
        go_roundw
        case rel => exact ⟨k + 1, by omega, by go_num, hnext, hbel.alloc hsz _⟩
        case measure => simp [intOf]; omega
    · have hfin : Hid (decide ((⟨k1, ⟨ho, hn⟩, wh, ⟨ao, an⟩, ⟨bo, bn⟩, v⟩ : St) ∈ L) = false) := Lib.hid (decide_eq_false (by
        have := hrun.out
        rwa [List.take_of_length_le (by omega)] at this))
      clear hrun
      go_wp2_with fail
      go_ret
      exact ⟨ret_bool hfin.out.symm, hb0⟩
end Go.Proofs.Ytpjacngbkohmdaa.SynD3
/- How statements stand: a strict weak order, as the library's sort asks it. -/
namespace Go.Proofs.Ytpjacngbkohmdaa.SynD
set_option linter.unusedVariables false
set_option linter.unusedSimpArgs false
open Go.Sort Go.Proofs Go.Proofs.Ytpjacngbkohmdaa.SynP
variable {α β : Type}
/-- A three-way comparison: it turns its sign with its arguments, goes through, and 0 is a congruence. -/
structure Tri (c : α → α → Int) : Prop where
  same : ∀ x, c x x = 0
  anti : ∀ x y, c y x = - c x y
  thru : ∀ x y z, c x y < 0 → c y z < 0 → c x z < 0
  cong : ∀ x y z, c x y = 0 → c y z = c x z
theorem orL_nil' : orL [] = 0 := rfl
theorem orL_cons' (x : Int) (l : List Int) : orL (x :: l) = if x ≠ 0 then x else orL l := rfl
theorem tri_nil : Tri (fun (_ _ : α) => orL []) :=
  ⟨fun _ => rfl, fun _ _ => rfl, fun _ _ _ h => by rw [orL_nil'] at h; omega, fun _ _ _ _ => rfl⟩
theorem tri_cons {c : α → α → Int} {l : α → α → List Int} (H : Tri c) (K : Tri fun x y => orL (l x y)) : Tri fun x y => orL (c x y :: l x y) := by
  refine ⟨fun x => ?_, fun x y => ?_, fun x y z h1 h2 => ?_, fun x y z h => ?_⟩
  · have h1 := H.same x
    have h2 := K.same x
    rw [orL_cons', h1, h2]; rfl
  · have h1 := H.anti x y
    have h2 := K.anti x y
    simp only [orL_cons']
    rw [h1, h2]
    split <;> split <;> omega
  · simp only [orL_cons'] at *
    by_cases e1 : c x y = 0
    · rw [if_neg (fun h => h e1)] at h1
      rw [← H.cong x y z e1]
      by_cases e2 : c y z = 0
      · rw [if_neg (fun h => h e2)] at *
        exact K.thru x y z h1 h2
      · rw [if_pos e2] at *; exact h2
    · rw [if_pos e1] at h1
      by_cases e2 : c y z = 0
      · have a1 := H.anti y z
        have a2 := H.cong z y x (by omega)
        have a3 := H.anti x y
        have a4 := H.anti z x
        have a5 : c x z = c x y := by omega
        rw [a5, if_pos e1]; exact h1
      · rw [if_pos e2] at h2
        have a1 := H.thru x y z h1 h2
        rw [if_pos (by omega)]; exact a1
  · simp only [orL_cons'] at *
    by_cases e1 : c x y = 0
    · rw [if_neg (fun h => h e1)] at h
      have a2 := K.cong x y z h
      rw [H.cong x y z e1, a2]
    · rw [if_pos e1] at h; exact absurd h e1
theorem tri_by {c : β → β → Int} (f : α → β) (H : Tri c) : Tri fun x y => c (f x) (f y) :=
  ⟨fun _ => H.same _, fun _ _ => H.anti _ _, fun _ _ _ => H.thru _ _ _, fun _ _ _ => H.cong _ _ _⟩
theorem tri_B : Tri cmpB :=
  ⟨fun _ => cmpB_eq.2 rfl, cmpB_anti, fun _ _ _ h1 h2 => cmpB_lt.2 (strLt_trans (cmpB_lt.1 h1) (cmpB_lt.1 h2)), fun _ _ _ h => by rw [cmpB_eq.1 h]⟩
theorem tri_N : Tri cmpN := by
  refine ⟨fun x => ?_, fun x y => ?_, fun x y z h1 h2 => ?_, fun x y z h => ?_⟩ <;> unfold cmpN at *
  · split <;> (try split) <;> omega
  · (repeat' split) <;> omega
  · revert h1 h2; (repeat' split) <;> omega
  · revert h; (repeat' split) <;> omega
theorem tri_R : Tri cmpR := tri_cons (tri_by Rl.owner tri_B) (tri_cons (tri_by Rl.name tri_B) tri_nil)
theorem tri_S : Tri cmpS :=
  tri_cons (tri_by St.head tri_R) (tri_cons (tri_by St.kind tri_N) (tri_cons (tri_by St.who tri_B) (tri_cons (tri_by St.a tri_R) (tri_cons (tri_by St.b tri_R) (tri_cons (tri_by St.via tri_B) tri_nil)))))
theorem swo_of {c : α → α → Int} (H : Tri c) : SWO (ltOf c) := by
  refine ⟨fun x => ?_, fun x y z h1 h2 => ?_, fun x y z h1 h2 => ?_⟩
  · exact decide_eq_false (by rw [H.same]; omega)
  · exact decide_eq_true (H.thru x y z (of_decide_eq_true h1) (of_decide_eq_true h2))
  · have h1 := of_decide_eq_false h1
    have h2 := of_decide_eq_false h2
    refine decide_eq_false fun h => ?_
    have a1 := H.anti x y
    have a2 := H.anti y z
    have a3 := H.anti x z
    by_cases e1 : c x y = 0
    · have := H.cong x y z e1; omega
    · by_cases e2 : c y z = 0
      · have := H.cong z y x (by omega); omega
      · have := H.thru z y x (by omega) (by omega); omega
theorem swo_S : SWO (ltOf cmpS) := swo_of tri_S
/-- What stands strictly in order. -/
def Strict (c : α → α → Int) (l : List α) : Prop := l.Pairwise fun x y => c x y < 0
/-- Two that stand strictly in order and have the same members are one. -/
theorem strict_one {c : α → α → Int} (H : Tri c) : ∀ {l l' : List α}, Strict c l → Strict c l' → (∀ x, x ∈ l ↔ x ∈ l') → l = l'
  | [], [], _, _, _ => rfl
  | [], y :: _, _, _, h => absurd ((h y).2 List.mem_cons_self) List.not_mem_nil
  | x :: _, [], _, _, h => absurd ((h x).1 List.mem_cons_self) List.not_mem_nil
  | x :: t, y :: t', h1, h2, h => by
    obtain ⟨a1, b1⟩ := List.pairwise_cons.1 h1
    obtain ⟨a2, b2⟩ := List.pairwise_cons.1 h2
    have irr : ∀ z, ¬ c z z < 0 := fun z => by rw [H.same]; omega
    have e : x = y := by
      rcases List.mem_cons.1 ((h x).1 List.mem_cons_self) with e | e
      · exact e
      · rcases List.mem_cons.1 ((h y).2 List.mem_cons_self) with e' | e'
        · exact e'.symm
        · exact absurd (H.thru _ _ _ (a2 x e) (a1 y e')) (irr y)
    subst e
    have e : t = t' := strict_one H b1 b2 fun z => by
      constructor
      · intro hz
        rcases List.mem_cons.1 ((h z).1 (List.mem_cons_of_mem _ hz)) with e | e
        · subst e; exact absurd (a1 _ hz) (irr _)
        · exact e
      · intro hz
        rcases List.mem_cons.1 ((h z).2 (List.mem_cons_of_mem _ hz)) with e | e
        · subst e; exact absurd (a2 _ hz) (irr _)
        · exact e
    rw [e]
/-- The first of each run of equals. -/
def compL (c : α → α → Int) : List α → List α
  | [] => []
  | [x] => [x]
  | x :: y :: t => if c x y = 0 then compL c (y :: t) else x :: compL c (y :: t)
theorem compL_mem {c : α → α → Int} (E : ∀ x y, c x y = 0 → x = y) : ∀ (l : List α) (z : α), z ∈ compL c l ↔ z ∈ l
  | [], _ => Iff.rfl
  | [_], _ => Iff.rfl
  | x :: y :: t, z => by
    unfold compL
    have K := compL_mem E (y :: t) z
    split
    · rename_i h
      rw [K, E x y h]; simp
    · rw [List.mem_cons, K, List.mem_cons (a := z) (b := x)]
theorem compL_strict {c : α → α → Int} (H : Tri c) (E : ∀ x y, c x y = 0 → x = y) : ∀ (l : List α), (l.Pairwise fun x y => ¬ c y x < 0) → Strict c (compL c l)
  | [], _ => List.Pairwise.nil
  | [_], _ => List.pairwise_singleton _ _
  | x :: y :: t, h => by
    obtain ⟨a1, b1⟩ := List.pairwise_cons.1 h
    have K := compL_strict H E (y :: t) b1
    unfold compL
    split
    · exact K
    · rename_i hn
      refine List.pairwise_cons.2 ⟨fun z hz => ?_, K⟩
      have hz := (compL_mem E _ _).1 hz
      have q1 : c x y < 0 := by have := a1 y List.mem_cons_self; have := H.anti x y; omega
      rcases List.mem_cons.1 hz with e | e
      · rw [e]; exact q1
      · obtain ⟨a2, _⟩ := List.pairwise_cons.1 b1
        have q2 := a2 z e
        have q3 := H.anti y z
        by_cases e0 : c y z = 0
        · rw [← E y z e0]; exact q1
        · exact H.thru x y z q1 (by omega)
/-- One put in its place. -/
def insL (c : α → α → Int) (s : α) : List α → List α
  | [] => [s]
  | x :: t => if c x s < 0 then x :: insL c s t else s :: x :: t
theorem insL_mem {c : α → α → Int} (s : α) : ∀ (l : List α) (z : α), z ∈ insL c s l ↔ z = s ∨ z ∈ l
  | [], z => by simp [insL]
  | x :: t, z => by
    unfold insL
    split
    · rw [List.mem_cons, insL_mem s t z, List.mem_cons]
      constructor
      · rintro (h | h | h)
        · exact .inr (.inl h)
        · exact .inl h
        · exact .inr (.inr h)
      · rintro (h | h | h)
        · exact .inr (.inl h)
        · exact .inl h
        · exact .inr (.inr h)
    · rw [List.mem_cons]
theorem insL_strict {c : α → α → Int} (H : Tri c) (E : ∀ x y, c x y = 0 → x = y) (s : α) : ∀ (l : List α), s ∉ l → Strict c l → Strict c (insL c s l)
  | [], _, _ => List.pairwise_singleton _ _
  | x :: t, hs, h => by
    obtain ⟨a1, b1⟩ := List.pairwise_cons.1 h
    unfold insL
    split
    · rename_i hx
      refine List.pairwise_cons.2 ⟨fun z hz => ?_, insL_strict H E s t (fun e => hs (List.mem_cons_of_mem _ e)) b1⟩
      rcases (insL_mem s t z).1 hz with e | e
      · rw [e]; exact hx
      · exact a1 z e
    · rename_i hx
      have q := H.anti x s
      have q1 : c s x < 0 := by
        by_cases e0 : c x s = 0
        · exact absurd (by rw [E x s e0]; exact List.mem_cons_self) hs
        · omega
      refine List.pairwise_cons.2 ⟨fun z hz => ?_, h⟩
      rcases List.mem_cons.1 hz with e | e
      · rw [e]; exact q1
      · exact H.thru _ _ _ q1 (a1 z e)
/-- The document's way: each that isn't there yet is put in its place. -/
def sortL (c : α → α → Int) [DecidableEq α] : List α → List α → List α
  | acc, [] => acc
  | acc, s :: t => sortL c (if s ∈ acc then acc else insL c s acc) t
theorem sortL_mem {c : α → α → Int} [DecidableEq α] : ∀ (l acc : List α) (z : α), z ∈ sortL c acc l ↔ z ∈ acc ∨ z ∈ l
  | [], acc, z => by simp [sortL]
  | s :: t, acc, z => by
    unfold sortL
    rw [sortL_mem t]
    split
    · rename_i h
      rw [List.mem_cons]
      constructor
      · rintro (h' | h')
        · exact .inl h'
        · exact .inr (.inr h')
      · rintro (h' | h' | h')
        · exact .inl h'
        · rw [h']; exact .inl h
        · exact .inr h'
    · rw [insL_mem, List.mem_cons, or_comm (a := z = s), or_assoc]
theorem sortL_strict {c : α → α → Int} [DecidableEq α] (H : Tri c) (E : ∀ x y, c x y = 0 → x = y) : ∀ (l acc : List α), Strict c acc → Strict c (sortL c acc l)
  | [], _, h => h
  | s :: t, acc, h => by
    unfold sortL
    refine sortL_strict H E t _ ?_
    split
    · exact h
    · rename_i hs
      exact insL_strict H E s acc hs h
/-- Both ways come out the same: d is the row permuted and sorted. -/
theorem sorts_one {c : α → α → Int} [DecidableEq α] (H : Tri c) (E : ∀ x y, c x y = 0 → x = y) {l d : List α} (hp : d.Perm l) (hs : d.Pairwise fun x y => ¬ c y x < 0) : compL c d = sortL c [] l :=
  strict_one H (compL_strict H E d hs) (sortL_strict H E l [] List.Pairwise.nil) fun x => by
    rw [compL_mem E, sortL_mem, hp.mem_iff]; simp
theorem orL_zero : ∀ {l : List Int}, orL l = 0 → ∀ x ∈ l, x = 0
  | [], _, _, h => absurd h List.not_mem_nil
  | a :: l, h, x, hx => by
    rw [orL_cons'] at h
    by_cases e : a = 0
    · rw [if_neg (fun h => h e)] at h
      rcases List.mem_cons.1 hx with e' | e'
      · rw [e', e]
      · exact orL_zero h x e'
    · rw [if_pos e] at h; exact absurd h e
theorem eqR {r s : Rl} (h : cmpR r s = 0) : r = s := by
  obtain ⟨o1, n1⟩ := r
  obtain ⟨o2, n2⟩ := s
  have q := orL_zero (l := [cmpB o1 o2, cmpB n1 n2]) h
  rw [cmpB_eq.1 (q (cmpB o1 o2) (by simp)), cmpB_eq.1 (q (cmpB n1 n2) (by simp))]
theorem eqN {a b : Int} (h : cmpN a b = 0) : a = b := by
  revert h; unfold cmpN; (repeat' split) <;> omega
theorem eqSt (s t : St) (h : cmpS s t = 0) : s = t := by
  obtain ⟨k1, h1, w1, a1, b1, v1⟩ := s
  obtain ⟨k2, h2, w2, a2, b2, v2⟩ := t
  have q := orL_zero (l := [cmpR h1 h2, cmpN k1 k2, cmpB w1 w2, cmpR a1 a2, cmpR b1 b2, cmpB v1 v2]) h
  rw [eqR (q (cmpR h1 h2) (by simp)), eqN (q (cmpN k1 k2) (by simp)), cmpB_eq.1 (q (cmpB w1 w2) (by simp)), eqR (q (cmpR a1 a2) (by simp)), eqR (q (cmpR b1 b2) (by simp)), cmpB_eq.1 (q (cmpB v1 v2) (by simp))]
instance : Inhabited St := ⟨zeroS⟩
/-- What the library's sort leaves, its equals dropped, is what the document's way makes. -/
theorem sorted_one {d d' : Array St} (hp : PermIn 0 d.size d d') (hs : SortedIn (ltOf cmpS) 0 d.size d') : compL cmpS d'.toList = sortL cmpS [] d.toList := by
  obtain ⟨hz, _, hp⟩ := hp
  refine sorts_one tri_S eqSt ?_ ?_
  · rwa [show d'.extract 0 d.size = d' by rw [← hz]; simp, show d.extract 0 d.size = d by simp] at hp
  · rw [List.pairwise_iff_getElem]
    intro i j hi hj hij
    rw [Array.length_toList] at hi hj
    have q := of_decide_eq_false (hs i j (Nat.zero_le _) hij (by omega))
    rwa [getElem!_pos d' i hi, getElem!_pos d' j hj] at q
end Go.Proofs.Ytpjacngbkohmdaa.SynD
/- How two roles, and two statements, stand: orderRoles, Less, Order. -/
namespace Go.Proofs.Ytpjacngbkohmdaa.Syn2
set_option linter.unusedVariables false
set_option linter.unusedSimpArgs false
open Go.RowKit Go.Sort Go.Proofs Go.Proofs.Ytpjacngbkohmdaa.Plain Go.Proofs.Ytpjacngbkohmdaa.SynP Go.Proofs.Ytpjacngbkohmdaa.Named Go.Proofs.Ytpjacngbkohmdaa.RefN Go.Proofs.Ytpjacngbkohmdaa.Grown Go.Proofs.Ytpjacngbkohmdaa.Syn1
theorem keep2 {W w1 w2 : World} {n : Nat} {f g : Nat → Option Value} (h : Grew W w1 ∧ (∀ o, w1.cell? ⟨n, o, none⟩ = f o) ∧ (∀ o, w1.cell? ⟨n + 1, o, none⟩ = g o)) (hn : n + 1 < W.heap.size) (hg : Grew w1 w2) :
    Grew W w2 ∧ (∀ o, w2.cell? ⟨n, o, none⟩ = f o) ∧ (∀ o, w2.cell? ⟨n + 1, o, none⟩ = g o) := by
  have hs := h.1.size
  exact ⟨h.1.trans hg, fun o => (hg.cell (a := ⟨n, o, none⟩) (by show n < _; omega)).trans (h.2.1 o), fun o => (hg.cell (a := ⟨n + 1, o, none⟩) (by show n + 1 < _; omega)).trans (h.2.2 o)⟩
theorem start2 (w : World) (A B : Array Value) (t : TypeId) : Grew ((w.alloc (.cells A t)).alloc (.cells B t)) ((w.alloc (.cells A t)).alloc (.cells B t)).drew ∧ (∀ o, ((w.alloc (.cells A t)).alloc (.cells B t)).drew.cell? ⟨w.heap.size, o, none⟩ = A[o]?) ∧ (∀ o, ((w.alloc (.cells A t)).alloc (.cells B t)).drew.cell? ⟨w.heap.size + 1, o, none⟩ = B[o]?) := by
  refine ⟨(Grew.refl _).drew, fun o => ?_, fun o => ?_⟩
  · exact (((Grew.refl (w.alloc (.cells A t))).alloc (.cells B t)).drew.cell (a := ⟨w.heap.size, o, none⟩) (by simp)).trans (Lib.cell_of_heap (heap_alloc_new w _) o)
  · have := Lib.cell_of_heap (heap_alloc_new (w.alloc (.cells A t)) (.cells B t)) o
    rw [← this]; simp
theorem irow_new (w : World) (l : List Int) (t : TypeId) {n : Nat} (hn : n = w.heap.size) : IRow (w.alloc (.cells (l.map (Value.int .i64)).toArray t)).drew n l := by
  subst hn
  exact ⟨by simp, fun k hk => by
    have := Lib.cell_of_heap (heap_alloc_new w (.cells (l.map (Value.int .i64)).toArray t)) k
    show (w.alloc _).cell? _ = _
    rw [this]; simp [hk]⟩
theorem irow_new0 (w : World) (l : List Int) (t : TypeId) {n : Nat} (hn : n = w.heap.size) : IRow (w.alloc (.cells (l.map (Value.int .i64)).toArray t)) n l := by
  subst hn
  exact ⟨by simp, fun k hk => by
    rw [Lib.cell_of_heap (heap_alloc_new w (.cells (l.map (Value.int .i64)).toArray t)) k]; simp [hk]⟩
set_option maxRecDepth 100000 in
theorem orderRoles (r s : Rl) (w : World) : Calls Try.prog 82 #[r.val, s.val] w fun e w' => e = .returned (.int .i64 (cmpR r s)) ∧ Grew w w' := by
  obtain ⟨o1, n1⟩ := r
  obtain ⟨o2, n2⟩ := s
  have hor : ∀ (w' : World) (n : Nat), n = w'.heap.size → Calls Try.prog 81 #[.slice (some ⟨n, 0, none⟩) 2 2] (w'.alloc (.cells #[.int .i64 (cmpB o1 o2), .int .i64 (cmpB n1 n2)] 3)).drew fun e w2 => e = .returned (.int .i64 (cmpR ⟨o1, n1⟩ ⟨o2, n2⟩)) ∧ (w'.alloc (.cells #[.int .i64 (cmpB o1 o2), .int .i64 (cmpB n1 n2)] 3)).drew = w2 := fun w' n hn =>
    or_ n 2 [cmpB o1 o2, cmpB n1 n2] _ (by simp) (irow_new w' [cmpB o1 o2, cmpB n1 n2] _ hn)
  have Hor := Lib.hid hor
  clear hor
  generalize cmpR ⟨o1, n1⟩ ⟨o2, n2⟩ = res at *
  unfold Rl.val
  go_enter Try.func82, Try.ntmps82
  go_wp2
  have hst := start2 w #[.string o1, .string n1] #[.string o2, .string n2] 24
  go_region_held3 (fun w' => Grew ((w.alloc (.cells #[.string o1, .string n1] 24)).alloc (.cells #[.string o2, .string n2] 24)) w' ∧ (∀ o, w'.cell? ⟨w.heap.size, o, none⟩ = (#[.string o1, .string n1] : Array Value)[o]?) ∧ (∀ o, w'.cell? ⟨w.heap.size + 1, o, none⟩ = (#[.string o2, .string n2] : Array Value)[o]?))
    (first | exact hst | assumption | exact keep2 (by assumption) (by simp) (Grew.alloc_drew _ _))
    (first | (go_at_call 84; refine (compareS _ _ _).mono ?_; rintro e w' ⟨rfl, rfl⟩) | (go_at_call 81; refine (Hor.out _ _ (by simp)).mono ?_; rintro e w' ⟨rfl, rfl⟩))
  rename_i hHeld
  go_wp2
  go_ret
  exact ⟨rfl, (((Grew.refl _).alloc _).alloc _).trans hHeld.1⟩
theorem less (r s : Rl) (w : World) : Calls Try.prog 76 #[r.val, s.val] w fun e w' => e = .returned (.bool (decide (cmpR r s < 0))) ∧ Grew w w' := by
  obtain ⟨o1, n1⟩ := r
  obtain ⟨o2, n2⟩ := s
  have H := Lib.hid (orderRoles ⟨o1, n1⟩ ⟨o2, n2⟩)
  generalize cmpR ⟨o1, n1⟩ ⟨o2, n2⟩ = res at *
  unfold Rl.val at *
  go_enter Try.func76, Try.ntmps76
  go_wp2_with (go_at_call 82; refine (H.out _).mono ?_; rintro e w' ⟨rfl, hg⟩)
  go_ret
  exact ⟨rfl, (((Grew.refl _).alloc _).alloc _).trans hg⟩
theorem rl_eq {r s : Rl} (h : r.owner = s.owner) (h2 : r.name = s.name) : r = s := by cases r; cases s; simp_all
theorem orL_cons0 (l : List Int) : orL (0 :: l) = orL l := by simp [orL]
theorem orL_cons1 {x : Int} (l : List Int) (h : x ≠ 0) : orL (x :: l) = x := by simp [orL, h]
theorem orL_one (x : Int) : orL [x] = x := by
  by_cases h : x = 0
  · subst h; rfl
  · exact orL_cons1 [] h
theorem cmpR_lt {r s : Rl} : (decide (cmpR r s < 0) : Bool) = if r.owner ≠ s.owner then strLt r.owner s.owner else strLt r.name s.name := by
  unfold cmpR
  by_cases h : r.owner = s.owner
  · rw [if_neg (fun e => e h), h, cmpB_eq.2 rfl, orL_cons0, orL_one, Bool.eq_iff_iff, decide_eq_true_iff, cmpB_lt]
  · rw [orL_cons1 _ (fun e => h (cmpB_eq.1 e)), if_pos h, Bool.eq_iff_iff, decide_eq_true_iff, cmpB_lt]
theorem lessRef (r s : Rl) (w : World) : Calls Try.prog 36 #[r.val, s.val] w fun e w' => e = .returned (.bool (decide (cmpR r s < 0))) ∧ Grew w w' := by
  obtain ⟨o1, n1⟩ := r
  obtain ⟨o2, n2⟩ := s
  have H := Lib.hid (cmpR_lt (r := ⟨o1, n1⟩) (s := ⟨o2, n2⟩))
  by_cases h : o1 = o2
  · have e1 : (o1.toList == o2.toList) = true := by rw [same_eq]; exact decide_eq_true h
    have H2 := Lib.hid (H.out.trans (if_neg (by simpa using h)))
    clear h
    unfold Rl.val at *
    go_enter Try.func36, Try.ntmps36
    go_wp2
    go_ret
    exact ⟨ret_bool (by rw [H2.out]; exact less_eq _ _), ((Grew.refl _).alloc _).alloc _⟩
  · have e1 : (o1.toList == o2.toList) = false := by rw [same_eq]; exact decide_eq_false h
    have H2 := Lib.hid (H.out.trans (if_pos h))
    clear h
    unfold Rl.val at *
    go_enter Try.func36, Try.ntmps36
    go_wp2
    go_ret
    exact ⟨ret_bool (by rw [H2.out]; exact less_eq _ _), ((Grew.refl _).alloc _).alloc _⟩
end Go.Proofs.Ytpjacngbkohmdaa.Syn2
