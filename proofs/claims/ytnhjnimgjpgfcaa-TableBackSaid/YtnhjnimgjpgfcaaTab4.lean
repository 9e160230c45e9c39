/- The document's own row of texts: Put, New; and what is light. -/
import Derived.Test.YtnhjnimgjpgfcaaTab3
namespace Go.Proofs.Ytnhjnimgjpgfcaa.Tab4
open Go.RowKit Go.Sort Go.Proofs Go.Proofs.Ytnhjnimgjpgfcaa.Plain Go.Proofs.Ytnhjnimgjpgfcaa.Tab1 Go.Proofs.Ytnhjnimgjpgfcaa.Tab2 Go.Proofs.Ytnhjnimgjpgfcaa.Tab3 Go.Proofs.Ytnhjnimgjpgfcaa.TabP
/-- What Put has made of the first k, and whether it has put the text. -/
def insTo (T : List Str) (s : Str) (k : Nat) : List Str × Bool :=
  (T.take k).foldl (fun a x => if !a.2 && decide (s < x) then (a.1 ++ [s] ++ [x], true) else (a.1 ++ [x], a.2)) ([], false)
theorem insTo_succ {T : List Str} {s : Str} {k : Nat} (h : k < T.length) : insTo T s (k + 1) = (if !(insTo T s k).2 && decide (s < T[k]) then ((insTo T s k).1 ++ [s] ++ [T[k]], true) else ((insTo T s k).1 ++ [T[k]], (insTo T s k).2)) := by
  unfold insTo
  rw [List.take_succ_eq_append_getElem h, List.foldl_append]
  rfl
def insAll (T : List Str) (s : Str) : List Str := if (insTo T s T.length).2 then (insTo T s T.length).1 else (insTo T s T.length).1 ++ [s]
theorem insTo_len (T : List Str) (s : Str) (k : Nat) (hk : k ≤ T.length) : (insTo T s k).1.length ≤ k + 1 ∧ ((insTo T s k).2 = false → (insTo T s k).1.length ≤ k) := by
  induction k with
  | zero => simp [insTo]
  | succ k ih =>
    obtain ⟨h1, h2⟩ := ih (by omega)
    rw [insTo_succ (by omega)]
    split
    · rename_i hc
      have hd : (insTo T s k).2 = false := by
        cases hd : (insTo T s k).2
        · rfl
        · rw [hd] at hc; simp at hc
      have := h2 hd
      simp
      omega
    · simp only [List.length_append, List.length_singleton]
      refine ⟨by omega, fun hd => ?_⟩
      have := h2 hd
      omega
def putL (T : List Str) (s : Str) : List Str := if s ∈ T then T else insAll T s
def PutPost (T : List Str) (s : Str) (B : Nat) (w : World) (e : Ending) (w' : World) : Prop :=
  ∃ v, e = .returned v ∧ w'.ownsRow B 9 1 v (putL T s).length ((putL T s).map encStr) ∧ Below B w w'
theorem enc_toList (s : ByteArray) : encStr s.toList = .string s := by
  show Value.string ⟨s.toList.toArray⟩ = _
  rw [Go.ByteArray.toList_eq]
theorem own_base {w : World} {B B' : Nat} {e : TypeId} {size : Nat} {v : Value} {n : Nat} {xs : List Value} (h : w.ownsRow B e size v n xs) (hB : B' ≤ B) : w.ownsRow B' e size v n xs := by
  refine ⟨h.1, ?_⟩
  rcases h.2 with h0 | ⟨g, cap, cur, rfl, hb, r⟩
  · exact .inl h0
  · exact .inr ⟨g, cap, cur, rfl, Nat.le_trans hB hb, r⟩
theorem own_app {w : World} {B : Nat} {e : TypeId} {v : Value} {L M : List Str} {x : Str} (h : w.ownsRow B e 1 v (L.length + 1) (L.map encStr ++ [encStr x])) (hM : M = L ++ [x]) : w.ownsRow B e 1 v M.length (M.map encStr) := by
  subst hM
  rw [List.length_append, List.map_append]
  exact h
theorem own_app2 {w : World} {B : Nat} {e : TypeId} {v : Value} {L M : List Str} {x y : Str} (h : w.ownsRow B e 1 v (L.length + 1 + 1) (L.map encStr ++ [encStr x, encStr y])) (hM : M = L ++ [x] ++ [y]) : w.ownsRow B e 1 v M.length (M.map encStr) := by
  subst hM
  rw [List.length_append, List.length_append, List.map_append, List.map_append, List.append_assoc]
  exact h
theorem ins_put {T : List Str} {s : Str} {k : Nat} (h : k < T.length) (hd : (insTo T s k).2 = false) (hl : Op.bytesLess s T[k] = true) : insTo T s (k + 1) = ((insTo T s k).1 ++ [s] ++ [T[k]], true) := by
  rw [bytesLess_eq] at hl
  rw [insTo_succ h, if_pos (by rw [hd, hl]; rfl)]
theorem ins_no {T : List Str} {s : Str} {k : Nat} (h : k < T.length) (hd : (insTo T s k).2 = false) (hl : Op.bytesLess s T[k] = false) : insTo T s (k + 1) = ((insTo T s k).1 ++ [T[k]], false) := by
  rw [bytesLess_eq] at hl
  rw [insTo_succ h, if_neg (by rw [hd, hl]; decide), hd]
theorem ins_done {T : List Str} {s : Str} {k : Nat} (h : k < T.length) (hd : (insTo T s k).2 = true) : insTo T s (k + 1) = ((insTo T s k).1 ++ [T[k]], true) := by
  rw [insTo_succ h, if_neg (by rw [hd]; simp), hd]
set_option maxHeartbeats 1000000 in
set_option maxRecDepth 100000 in
theorem put (B : Nat) (A : Option Addr) (c : Nat) (T : List Str) (s : ByteArray) (w : World) (hL : T.length ≤ 100000) (hB : B ≤ w.heap.size) (hown : w.ownsRow B 9 1 (.slice A T.length c) T.length (T.map encStr)) :
    Calls Try.prog 34 #[.slice A T.length c, .string s] w (PutPost T s.toList B w) := by
  obtain ⟨i0, hi, hz0, hz1, hz2⟩ := info_parts infoStr
  have hrow : SRow w A T := by
    obtain ⟨A', c', e, _, h⟩ := SRow.of_own hown
    injection e with e1 _ _
    subst e1
    exact h
  by_cases hin : s.toList ∈ T
  · have hp := Lib.hid (show putL T s.toList = T from by unfold putL; rw [if_pos hin])
    have hd : decide (s.toList ∈ T) = true := decide_eq_true hin
    clear hin
    go_enter Try.func34, Try.ntmps34
    go_wp2_with (go_at_call 56; refine (has A c T s _ (by omega) hrow).mono ?_; rintro e w' ⟨rfl, rfl⟩)
    go_ret
    exact ⟨_, rfl, by rw [hp.out]; exact hown, Below.refl _ _⟩
  · have hp := Lib.hid (show putL T s.toList = insAll T s.toList from by unfold putL; rw [if_neg hin])
    have hd : decide (s.toList ∈ T) = false := decide_eq_false hin
    clear hin
    go_enter Try.func34, Try.ntmps34
    go_wp2_with (go_at_call 56; refine (has A c T s _ (by omega) hrow).mono ?_; rintro e w' ⟨rfl, rfl⟩)
    go_loopw [5, 6, 15] (fun v d i wr => ∃ k : Nat, k ≤ T.length ∧ i = .int .i64 k ∧ d = .bool (insTo T s.toList k).2 ∧ wr.ownsRow w.heap.size 9 1 v (insTo T s.toList k).1.length ((insTo T s.toList k).1.map encStr) ∧ Below w.heap.size w wr) (fun _ _ i _ => T.length - (intOf i).toNat)
    case atStart => exact ⟨0, by omega, rfl, rfl, World.ownsRow_nil _ _ _ _, Below.refl _ _⟩
    case round =>
      obtain ⟨k, hk, rfl, rfl, hown1, hbel⟩ := hrel
      have hlen := (insTo_len T s.toList k hk).1
      by_cases hlt : k < T.length
      ·
        obtain ⟨g, off, rfl, hg, hcell⟩ := hrow (by omega)
        have hx := (hbel.cell (p := ⟨g, off + k, none⟩) hg).trans (hcell k hlt)
        clear hcell
        cases hD : (insTo T s.toList k).2
        · cases hl : Op.bytesLess s.toList T[k]
          · have hn := Lib.hid (ins_no hlt hD hl)
            go_wp2_with (at_builtin; refine wpList_append_own _ rfl (.tmp 30) (.tmp 32) 22 rfl w.heap.size 9 i0 (.string ⟨#[]⟩) 1 16 Try.underlying22 hi hz0 hz1 hz2 rfl (by decide) _ _ _ rfl (hown1.alloc _) ⟨wr.heap.size, 0, none⟩ 1 1 [.string ⟨T[k].toArray⟩] rfl rfl ?c1 ?c2 ?c3 ?c4 ?c5 ?_)
            case c1 => exact new_cell1 _ _ _
            case c2 => intro u hu; simp at hu; subst hu; rfl
            case c3 => unfold maxLen; first | omega | (simp; omega)
            case c4 => first | omega | (simp; omega)
            case c5 => have := hbel.size; simp; omega
            intro v2 w2 hown3 hgrow2 _
            have hbel3 := (hbel.alloc hbel.size _).grown hgrow2 (by have := hbel.size; simp; omega) (fun j hj => (hown1.lt j hj).1)
            have hown4 := own_app hown3 (show (insTo T s.toList (k + 1)).1 = _ ++ [T[k]] from by rw [hn.out])
            clear hown1 hown3 hbel hgrow2
            go_wp2_with fail
            go_roundw
            case rel => exact ⟨k + 1, by omega, by go_num, by rw [hn.out], hown4, hbel3⟩
            case measure => simp [intOf]; omega
          · have hn := Lib.hid (ins_put hlt hD hl)
            go_wp2_with (at_builtin; refine wpList_append_own _ rfl (.tmp 26) (.tmp 28) 22 rfl w.heap.size 9 i0 (.string ⟨#[]⟩) 1 16 Try.underlying22 hi hz0 hz1 hz2 rfl (by decide) _ _ _ rfl (hown1.alloc _) ⟨wr.heap.size, 0, none⟩ 1 1 [.string s] rfl rfl ?c1 ?c2 ?c3 ?c4 ?c5 ?_)
            case c1 => exact new_cell1 _ _ _
            case c2 => intro u hu; simp at hu; subst hu; rfl
            case c3 => unfold maxLen; first | omega | (simp; omega)
            case c4 => first | omega | (simp; omega)
            case c5 => have := hbel.size; simp; omega
            intro v1 w1 hown2 hgrow1 _
            have hbel2 := (hbel.alloc hbel.size _).grown hgrow1 (by have := hbel.size; simp; omega) (fun j hj => (hown1.lt j hj).1)
            rw [← enc_toList] at hown2
            have hown2 := own_app hown2 rfl
            clear hown1 hgrow1
            go_wp2_with (at_builtin; refine wpList_append_own _ rfl (.tmp 30) (.tmp 32) 22 rfl w.heap.size 9 i0 (.string ⟨#[]⟩) 1 16 Try.underlying22 hi hz0 hz1 hz2 rfl (by decide) _ _ _ rfl (hown2.alloc _) ⟨w1.heap.size, 0, none⟩ 1 1 [.string ⟨T[k].toArray⟩] rfl rfl ?c1 ?c2 ?c3 ?c4 ?c5 ?_)
            case c1 => exact new_cell1 _ _ _
            case c2 => intro u hu; simp at hu; subst hu; rfl
            case c3 => unfold maxLen; first | omega | (simp; omega)
            case c4 => first | omega | (simp; omega)
            case c5 => have := hbel2.size; simp; omega
            intro v2 w2 hown3 hgrow2 _
            have hbel3 := (hbel2.alloc hbel2.size _).grown hgrow2 (by have := hbel2.size; simp; omega) (fun j hj => (hown2.lt j hj).1)
            have hown4 := own_app2 hown3 (show (insTo T s.toList (k + 1)).1 = _ ++ [s.toList] ++ [T[k]] from by rw [hn.out])
            clear hown2 hown3 hbel hbel2 hgrow2
            go_wp2_with fail
            go_roundw
            case rel => exact ⟨k + 1, by omega, by go_num, by rw [hn.out], hown4, hbel3⟩
            case measure => simp [intOf]; omega
        · have hn := Lib.hid (ins_done hlt hD)
          go_wp2_with (at_builtin; refine wpList_append_own _ rfl (.tmp 30) (.tmp 32) 22 rfl w.heap.size 9 i0 (.string ⟨#[]⟩) 1 16 Try.underlying22 hi hz0 hz1 hz2 rfl (by decide) _ _ _ rfl (hown1.alloc _) ⟨wr.heap.size, 0, none⟩ 1 1 [.string ⟨T[k].toArray⟩] rfl rfl ?c1 ?c2 ?c3 ?c4 ?c5 ?_)
          case c1 => exact new_cell1 _ _ _
          case c2 => intro u hu; simp at hu; subst hu; rfl
          case c3 => unfold maxLen; first | omega | (simp; omega)
          case c4 => first | omega | (simp; omega)
          case c5 => have := hbel.size; simp; omega
          intro v2 w2 hown3 hgrow2 _
          have hbel3 := (hbel.alloc hbel.size _).grown hgrow2 (by have := hbel.size; simp; omega) (fun j hj => (hown1.lt j hj).1)
          have hown4 := own_app hown3 (show (insTo T s.toList (k + 1)).1 = _ ++ [T[k]] from by rw [hn.out])
          clear hown1 hown3 hbel hgrow2
          go_wp2_with fail
          go_roundw
          case rel => exact ⟨k + 1, by omega, by go_num, by rw [hn.out], hown4, hbel3⟩
          case measure => simp [intOf]; omega
      · have e : k = T.length := by omega
        subst e
        cases hD : (insTo T s.toList T.length).2
        · have hn := Lib.hid (show insAll T s.toList = (insTo T s.toList T.length).1 ++ [s.toList] from by unfold insAll; rw [if_neg (by rw [hD]; decide)])
          go_wp2_with (at_builtin; refine wpList_append_own _ rfl (.tmp 37) (.tmp 39) 22 rfl w.heap.size 9 i0 (.string ⟨#[]⟩) 1 16 Try.underlying22 hi hz0 hz1 hz2 rfl (by decide) _ _ _ rfl (hown1.alloc _) ⟨wr.heap.size, 0, none⟩ 1 1 [.string s] rfl rfl ?c1 ?c2 ?c3 ?c4 ?c5 ?_)
          case c1 => exact new_cell1 _ _ _
          case c2 => intro u hu; simp at hu; subst hu; rfl
          case c3 => unfold maxLen; first | omega | (simp; omega)
          case c4 => first | omega | (simp; omega)
          case c5 => have := hbel.size; simp; omega
          intro v1 w1 hown2 hgrow1 _
          have hbel2 := (hbel.alloc hbel.size _).grown hgrow1 (by have := hbel.size; simp; omega) (fun j hj => (hown1.lt j hj).1)
          rw [← enc_toList] at hown2
          have hown3 := own_app hown2 hn.out
          clear hown1 hown2 hgrow1 hbel
          go_wp2_with fail
          go_ret
          exact ⟨_, rfl, by rw [hp.out]; exact own_base hown3 hB, hbel2.mono hB⟩
        · have hn := Lib.hid (show insAll T s.toList = (insTo T s.toList T.length).1 from by unfold insAll; rw [if_pos hD])
          go_wp2_with fail
          go_ret
          exact ⟨_, rfl, by rw [hp.out, hn.out]; exact own_base hown1 hB, hbel.mono hB⟩
end Go.Proofs.Ytnhjnimgjpgfcaa.Tab4
