/- Where a text is in a table: Find. -/
import Derived.Test.YtkmpbkgmdfeicaaGreatM11
import Derived.Deep.QuietTactic
import Derived.BigQuiet
import Derived.WalkLawsBesides
import Derived.Sort.Walk0
import Derived.IntWalk
import Derived.Lib.ItoaLen
import Derived.Laws.BytesArg
import Derived.Lib.AppendZeros
import Derived.Test.YtkmpbkgmdfeicaaGreatM04
import Derived.Deep.LoopGhost
namespace Go.Proofs.YtkmpbkgmdfeicaaGreat.Tab2
set_option linter.unusedVariables false
set_option linter.unusedSimpArgs false
open Go.RowKit Go.Sort Go.Proofs Go.Proofs.YtkmpbkgmdfeicaaGreat.Plain Go.Proofs.YtkmpbkgmdfeicaaGreat.Tab1 Go.Proofs.YtkmpbkgmdfeicaaGreat.TabP
def SearchPost (T : List Str) (s : Str) (w : World) (e : Ending) (w' : World) : Prop :=
  ∃ a : Nat, e = .returned (.int .i64 a) ∧ a ≤ T.length ∧ (∀ k, (h : k < T.length) → k < a → T[k] < s) ∧ (∀ k, (h : k < T.length) → a ≤ k → ¬ T[k] < s) ∧ ∃ m, w' = w.drewN m
theorem mid_cast (a b : Nat) : (((a : Int) + (b : Int)) / 2) = (((a + b) / 2 : Nat) : Int) := by omega
/-- The place of a text, -1 if it is not in. -/
def findI (T : List Str) (s : Str) : Int := if s ∈ T then ((T.idxOf s : Nat) : Int) else -1
theorem findI_hit {T : List Str} {s : Str} (hs : T.Pairwise (· < ·)) {a : Nat} (h : a < T.length) (e : T[a] = s) : findI T s = a := by
  have hm : s ∈ T := by rw [← e]; exact List.getElem_mem _
  unfold findI
  rw [if_pos hm]
  have hlt := List.idxOf_lt_length_iff.2 hm
  have h1 : T[T.idxOf s] = s := List.getElem_idxOf hlt
  have hp := List.pairwise_iff_getElem.1 hs
  rcases Nat.lt_trichotomy (T.idxOf s) a with h2 | h2 | h2
  · have := hp _ _ hlt h h2
    rw [h1, e] at this
    exact absurd this (List.lt_irrefl _)
  · rw [h2]
  · have := hp _ _ h hlt h2
    rw [h1, e] at this
    exact absurd this (List.lt_irrefl _)
theorem findI_miss {T : List Str} {s : Str} (h : s ∉ T) : findI T s = -1 := by unfold findI; rw [if_neg h]
theorem miss_of {T : List Str} {s : Str} (hs : T.Pairwise (· < ·)) {a : Nat} (hlo : ∀ k, (h : k < T.length) → k < a → T[k] < s) (hhi : ∀ k, (h : k < T.length) → a ≤ k → ¬ T[k] < s) (hne : ∀ h : a < T.length, T[a] ≠ s) : s ∉ T := by
  intro hm
  obtain ⟨k, hk, e⟩ := List.getElem_of_mem hm
  rcases Nat.lt_trichotomy k a with h2 | h2 | h2
  · have := hlo k hk h2
    rw [e] at this
    exact List.lt_irrefl _ this
  · subst h2
    exact hne hk e
  · have ha : a < T.length := by omega
    have := List.pairwise_iff_getElem.1 hs _ _ ha hk h2
    rw [e] at this
    exact hhi a ha (Nat.le_refl _) this
def FindPost (T : List Str) (s : Str) (w : World) (e : Ending) (w' : World) : Prop := e = .returned (.int .i64 (findI T s)) ∧ Below w.heap.size w w'
end Go.Proofs.YtkmpbkgmdfeicaaGreat.Tab2
/- Fresh texts, and rows held against each other. -/
namespace Go.Proofs.YtkmpbkgmdfeicaaGreat.Tab3
set_option linter.unusedVariables false
set_option linter.unusedSimpArgs false
open Go.RowKit Go.Sort Go.Proofs Go.Proofs.YtkmpbkgmdfeicaaGreat.Plain Go.Proofs.YtkmpbkgmdfeicaaGreat.Tab1 Go.Proofs.YtkmpbkgmdfeicaaGreat.Tab2 Go.Proofs.YtkmpbkgmdfeicaaGreat.TabP
set_option maxRecDepth 100000 in
theorem same (A B : Option Addr) (ca cb : Nat) (T : List Str) (w : World) (hL : T.length ≤ 1000000) (hA : SRow w A T) (hB : SRow w B T) :
    Calls Tryz.prog 19 #[.slice A T.length ca, .slice B T.length cb] w fun e w' => e = .returned (.bool true) ∧ ∃ n, w' = w.drewN n := by
  go_enter Tryz.func19, Tryz.ntmps19
  go_wp2
  go_loopw [13] (fun i wr => ∃ k : Nat, k ≤ T.length ∧ i = .int .i64 k ∧ ∃ n, wr = w.drewN n) (fun i _ => T.length - (intOf i).toNat)
  case atStart => exact ⟨0, by omega, rfl, 0, rfl⟩
  case round =>
    obtain ⟨k, hk, rfl, n, rfl⟩ := hrel
    by_cases hlt : k < T.length
    · obtain ⟨g1, o1, rfl, _, h1⟩ := hA (by omega)
      obtain ⟨g2, o2, rfl, _, h2⟩ := hB (by omega)
      have a1 := h1 k hlt
      have a2 := h2 k hlt
      clear h1 h2 hA hB
      go_wp2_with fail
      go_quiet (fail)
      go_wp2_with fail
      go_roundw
      case rel => exact ⟨k + 1, by omega, by go_num, _, rfl⟩
      case measure => simp [intOf]; omega
    · go_wp2_with fail
      go_ret
      exact ⟨rfl, _, rfl⟩
theorem has (A : Option Addr) (c : Nat) (T : List Str) (s : ByteArray) (w : World) (hL : T.length ≤ 1000000) (hA : SRow w A T) :
    Calls Tryz.prog 108 #[.slice A T.length c, .string s] w fun e w' => e = .returned (.bool (decide (s.toList ∈ T))) ∧ w = w' := by
  go_enter Tryz.func108, Tryz.ntmps108
  go_wp2
  go_loop [9] (fun i => ∃ k : Nat, k ≤ T.length ∧ i = .int .i64 k ∧ Hid (∀ j, (h : j < T.length) → j < k → T[j] ≠ s.toList)) (fun i => T.length - (intOf i).toNat)
  case atStart => exact ⟨0, by omega, rfl, Lib.hid fun j _ h => by omega⟩
  case round =>
    obtain ⟨k, hk, rfl, hall⟩ := hrel
    by_cases hlt : k < T.length
    · obtain ⟨g1, o1, rfl, _, h1⟩ := hA (by omega)
      have a1 := h1 k hlt
      clear h1 hA
      by_cases he : T[k] = s.toList
      · have hin : Hid (decide (s.toList ∈ T) = true) := Lib.hid (decide_eq_true (by rw [← he]; exact List.getElem_mem _))
        have e1 : (T[k] == s.toList) = true := by simpa using he
        clear he hall
        go_wp2_with fail
        go_ret
        exact ⟨ret_bool hin.out.symm, rfl⟩
      · have e1 : (T[k] == s.toList) = false := by simpa using he
        have hnext : Hid (∀ j, (h : j < T.length) → j < k + 1 → T[j] ≠ s.toList) := Lib.hid fun j h hj => by
          by_cases e : j = k
          · subst e; exact he
          · exact hall.out j h (by omega)
        clear he hall
        go_wp2_with fail
        go_round
        case rel => exact ⟨k + 1, by omega, by go_num, hnext⟩
        case measure => simp [intOf]; omega
    · have hin : Hid (decide (s.toList ∈ T) = false) := Lib.hid (decide_eq_false (fun hm => by
        obtain ⟨j, hj, e⟩ := List.getElem_of_mem hm
        exact hall.out j hj (by omega) e))
      clear hall
      go_wp2_with fail
      go_ret
      exact ⟨ret_bool hin.out.symm, rfl⟩
abbrev Pow (w : World) : Prop := Lib.TabIs Tryz.prog w "internal/strconv.uint64pow10" .u64 Lib.pow10Tab
theorem infoStr : (Tryz.prog.info? 9).map (fun i => (i.zero, i.size, i.bytes)) = some (some (.string ⟨#[]⟩), 1, 16) := by kernel_rfl
theorem own_keep {w w' : World} {base : Nat} {e : TypeId} {size : Nat} {v : Value} {n : Nat} {xs : List Value} (h : w.ownsRow base e size v n xs) (hb : Below w.heap.size w w') : w'.ownsRow base e size v n xs := by
  refine ⟨h.1, ?_⟩
  rcases h.2 with h0 | ⟨g, cap, cur, rfl, hB, hh, r⟩
  · exact .inl h0
  · exact .inr ⟨g, cap, cur, rfl, hB, (hb.block g (h.lt g rfl).2).trans hh, r⟩
theorem new_cell1 (w : World) (a : Value) (t : TypeId) : ∀ j u, [a][j]? = some u → (w.alloc (.cells #[a] t)).cell? ((⟨w.heap.size, 0, none⟩ : Addr).add j) = some u := by
  intro j u hj
  match j, hj with
  | 0, hj => simp at hj; subst hj; simp [Addr.add]
theorem below_grow (w : World) (os : Array Obj) : Below w.heap.size w (grow w os) :=
  ⟨rfl, rfl, rfl, by simp [grow], fun k hk => heap_grow_old w os hk⟩
theorem itoa_nat (k : Nat) : Lib.itoa ((k : Int) + 1) = Lib.decDigits (k + 1) := by
  unfold Lib.itoa
  rw [if_neg (by omega)]
  rfl
theorem cat_xs (k : Nat) : (⟨#[88]⟩ ++ ⟨(Lib.decDigits k).toArray⟩ : ByteArray) = ⟨(xs k).toArray⟩ := by
  apply ByteArray.ext
  rw [ByteArray.data_append]
  apply Array.ext'
  simp [xs]
theorem findI_ge {T : List Str} {s : Str} (h : s ∈ T) : 0 ≤ findI T s := by unfold findI; rw [if_pos h]; omega
def FreshPost (T : List Str) (n : Int) (w : World) (e : Ending) (w' : World) : Prop :=
  ∃ v, e = .returned v ∧ w'.ownsRow w.heap.size 9 1 v (fr T n (1000 + T.length)).length ((fr T n (1000 + T.length)).map encStr) ∧ Below w.heap.size w w'
end Go.Proofs.YtkmpbkgmdfeicaaGreat.Tab3
/- The document's own row of texts: Put, New; and what is light. -/
namespace Go.Proofs.YtkmpbkgmdfeicaaGreat.Tab4
set_option linter.unusedVariables false
set_option linter.unusedSimpArgs false
open Go.RowKit Go.Sort Go.Proofs Go.Proofs.YtkmpbkgmdfeicaaGreat.Plain Go.Proofs.YtkmpbkgmdfeicaaGreat.Tab1 Go.Proofs.YtkmpbkgmdfeicaaGreat.Tab2 Go.Proofs.YtkmpbkgmdfeicaaGreat.Tab3 Go.Proofs.YtkmpbkgmdfeicaaGreat.TabP
/-- What Put has made of the first k, and whether it has put the text. -/
def insTo (T : List Str) (s : Str) (k : Nat) : List Str × Bool :=
  (T.take k).foldl (fun a x => if !a.2 && decide (s < x) then (a.1 ++ [s] ++ [x], true) else (a.1 ++ [x], a.2)) ([], false)
theorem insTo_succ {T : List Str} {s : Str} {k : Nat} (h : k < T.length) : insTo T s (k + 1) = (if !(insTo T s k).2 && decide (s < T[k]) then ((insTo T s k).1 ++ [s] ++ [T[k]], true) else ((insTo T s k).1 ++ [T[k]], (insTo T s k).2)) := by
  unfold insTo
  rw [List.take_succ_eq_append_getElem h, List.foldl_append]
  rfl
def insAll (T : List Str) (s : Str) : List Str := if (insTo T s T.length).2 then (insTo T s T.length).1 else (insTo T s T.length).1 ++ [s]
theorem insTo_len (T : List Str) (s : Str) (k : Nat) (hk : k ≤ T.length) : (insTo T s k).1.length ≤ k + 1 ∧ ((insTo T s k).2 = false → (insTo T s k).1.length ≤ k) := by
  induction k with
  | zero => simp [insTo]
  | succ k ih =>
    obtain ⟨h1, h2⟩ := ih (by omega)
    rw [insTo_succ (by omega)]
    split
    · rename_i hc
      have hd : (insTo T s k).2 = false := by
        cases hd : (insTo T s k).2
        · rfl
        · rw [hd] at hc; simp at hc
      have := h2 hd
      simp
      omega
    · simp only [List.length_append, List.length_singleton]
      refine ⟨by omega, fun hd => ?_⟩
      have := h2 hd
      omega
def putL (T : List Str) (s : Str) : List Str := if s ∈ T then T else insAll T s
def PutPost (T : List Str) (s : Str) (B : Nat) (w : World) (e : Ending) (w' : World) : Prop :=
  ∃ v, e = .returned v ∧ w'.ownsRow B 9 1 v (putL T s).length ((putL T s).map encStr) ∧ Below B w w'
theorem enc_toList (s : ByteArray) : encStr s.toList = .string s := by
  show Value.string ⟨s.toList.toArray⟩ = _
  rw [Go.ByteArray.toList_eq]
theorem own_base {w : World} {B B' : Nat} {e : TypeId} {size : Nat} {v : Value} {n : Nat} {xs : List Value} (h : w.ownsRow B e size v n xs) (hB : B' ≤ B) : w.ownsRow B' e size v n xs := by
  refine ⟨h.1, ?_⟩
  rcases h.2 with h0 | ⟨g, cap, cur, rfl, hb, r⟩
  · exact .inl h0
  · exact .inr ⟨g, cap, cur, rfl, Nat.le_trans hB hb, r⟩
theorem own_app {w : World} {B : Nat} {e : TypeId} {v : Value} {L M : List Str} {x : Str} (h : w.ownsRow B e 1 v (L.length + 1) (L.map encStr ++ [encStr x])) (hM : M = L ++ [x]) : w.ownsRow B e 1 v M.length (M.map encStr) := by
  subst hM
  rw [List.length_append, List.map_append]
  exact h
theorem own_app2 {w : World} {B : Nat} {e : TypeId} {v : Value} {L M : List Str} {x y : Str} (h : w.ownsRow B e 1 v (L.length + 1 + 1) (L.map encStr ++ [encStr x, encStr y])) (hM : M = L ++ [x] ++ [y]) : w.ownsRow B e 1 v M.length (M.map encStr) := by
  subst hM
  rw [List.length_append, List.length_append, List.map_append, List.map_append, List.append_assoc]
  exact h
theorem ins_put {T : List Str} {s : Str} {k : Nat} (h : k < T.length) (hd : (insTo T s k).2 = false) (hl : Op.bytesLess s T[k] = true) : insTo T s (k + 1) = ((insTo T s k).1 ++ [s] ++ [T[k]], true) := by
  rw [bytesLess_eq] at hl
  rw [insTo_succ h, if_pos (by rw [hd, hl]; rfl)]
theorem ins_no {T : List Str} {s : Str} {k : Nat} (h : k < T.length) (hd : (insTo T s k).2 = false) (hl : Op.bytesLess s T[k] = false) : insTo T s (k + 1) = ((insTo T s k).1 ++ [T[k]], false) := by
  rw [bytesLess_eq] at hl
  rw [insTo_succ h, if_neg (by rw [hd, hl]; decide), hd]
theorem ins_done {T : List Str} {s : Str} {k : Nat} (h : k < T.length) (hd : (insTo T s k).2 = true) : insTo T s (k + 1) = ((insTo T s k).1 ++ [T[k]], true) := by
  rw [insTo_succ h, if_neg (by rw [hd]; simp), hd]
set_option maxHeartbeats 1000000 in
set_option maxRecDepth 100000 in
theorem put (B : Nat) (A : Option Addr) (c : Nat) (T : List Str) (s : ByteArray) (w : World) (hL : T.length ≤ 100000) (hB : B ≤ w.heap.size) (hown : w.ownsRow B 9 1 (.slice A T.length c) T.length (T.map encStr)) :
    Calls Tryz.prog 64 #[.slice A T.length c, .string s] w (PutPost T s.toList B w) := by
  obtain ⟨i0, hi, hz0, hz1, hz2⟩ := info_parts infoStr
  have hrow : SRow w A T := by
    obtain ⟨A', c', e, _, h⟩ := SRow.of_own hown
    injection e with e1 _ _
    subst e1
    exact h
  by_cases hin : s.toList ∈ T
  · have hp := Lib.hid (show putL T s.toList = T from by unfold putL; rw [if_pos hin])
    have hd : decide (s.toList ∈ T) = true := decide_eq_true hin
    clear hin
    go_enter Tryz.func64, Tryz.ntmps64
    go_wp2_with (go_at_call 108; refine (has A c T s _ (by omega) hrow).mono ?_; rintro e w' ⟨rfl, rfl⟩)
    go_ret
    exact ⟨_, rfl, by rw [hp.out]; exact hown, Below.refl _ _⟩
  · have hp := Lib.hid (show putL T s.toList = insAll T s.toList from by unfold putL; rw [if_neg hin])
    have hd : decide (s.toList ∈ T) = false := decide_eq_false hin
    clear hin
    go_enter Tryz.func64, Tryz.ntmps64
    go_wp2_with (go_at_call 108; refine (has A c T s _ (by omega) hrow).mono ?_; rintro e w' ⟨rfl, rfl⟩)
    go_loopw [5, 6, 15] (fun v d i wr => ∃ k : Nat, k ≤ T.length ∧ i = .int .i64 k ∧ d = .bool (insTo T s.toList k).2 ∧ wr.ownsRow w.heap.size 9 1 v (insTo T s.toList k).1.length ((insTo T s.toList k).1.map encStr) ∧ Below w.heap.size w wr) (fun _ _ i _ => T.length - (intOf i).toNat)
    case atStart => exact ⟨0, by omega, rfl, rfl, World.ownsRow_nil _ _ _ _, Below.refl _ _⟩
    case round =>
      obtain ⟨k, hk, rfl, rfl, hown1, hbel⟩ := hrel
      have hlen := (insTo_len T s.toList k hk).1
      by_cases hlt : k < T.length
      ·
        obtain ⟨g, off, rfl, hg, hcell⟩ := hrow (by omega)
        have hx := (hbel.cell (p := ⟨g, off + k, none⟩) hg).trans (hcell k hlt)
        clear hcell
        cases hD : (insTo T s.toList k).2
        · cases hl : Op.bytesLess s.toList T[k]
          · have hn := Lib.hid (ins_no hlt hD hl)
            go_wp2_with (at_builtin; refine wpList_append_own _ rfl (.tmp 30) (.tmp 32) 33 rfl w.heap.size 9 i0 (.string ⟨#[]⟩) 1 16 Tryz.underlying33 hi hz0 hz1 hz2 rfl (by decide) _ _ _ rfl (hown1.alloc _) ⟨wr.heap.size, 0, none⟩ 1 1 [.string ⟨T[k].toArray⟩] rfl rfl ?c1 ?c2 ?c3 ?c4 ?c5 ?_)
            case c1 => exact new_cell1 _ _ _
            case c2 => intro u hu; simp at hu; subst hu; rfl
            case c3 => unfold maxLen; first | omega | (simp; omega)
            case c4 => first | omega | (simp; omega)
            case c5 => have := hbel.size; simp; omega
            intro v2 w2 hown3 hgrow2 _
            have hbel3 := (hbel.alloc hbel.size _).grown hgrow2 (by have := hbel.size; simp; omega) (fun j hj => (hown1.lt j hj).1)
            have hown4 := own_app hown3 (show (insTo T s.toList (k + 1)).1 = _ ++ [T[k]] from by rw [hn.out])
            clear hown1 hown3 hbel hgrow2
            go_wp2_with fail
            go_roundw
            case rel => exact ⟨k + 1, by omega, by go_num, by rw [hn.out], hown4, hbel3⟩
            case measure => simp [intOf]; omega
          · have hn := Lib.hid (ins_put hlt hD hl)
            go_wp2_with (at_builtin; refine wpList_append_own _ rfl (.tmp 26) (.tmp 28) 33 rfl w.heap.size 9 i0 (.string ⟨#[]⟩) 1 16 Tryz.underlying33 hi hz0 hz1 hz2 rfl (by decide) _ _ _ rfl (hown1.alloc _) ⟨wr.heap.size, 0, none⟩ 1 1 [.string s] rfl rfl ?c1 ?c2 ?c3 ?c4 ?c5 ?_)
            case c1 => exact new_cell1 _ _ _
            case c2 => intro u hu; simp at hu; subst hu; rfl
            case c3 => unfold maxLen; first | omega | (simp; omega)
            case c4 => first | omega | (simp; omega)
            case c5 => have := hbel.size; simp; omega
            intro v1 w1 hown2 hgrow1 _
            have hbel2 := (hbel.alloc hbel.size _).grown hgrow1 (by have := hbel.size; simp; omega) (fun j hj => (hown1.lt j hj).1)
            rw [← enc_toList] at hown2
            have hown2 := own_app hown2 rfl
            clear hown1 hgrow1
            go_wp2_with (at_builtin; refine wpList_append_own _ rfl (.tmp 30) (.tmp 32) 33 rfl w.heap.size 9 i0 (.string ⟨#[]⟩) 1 16 Tryz.underlying33 hi hz0 hz1 hz2 rfl (by decide) _ _ _ rfl (hown2.alloc _) ⟨w1.heap.size, 0, none⟩ 1 1 [.string ⟨T[k].toArray⟩] rfl rfl ?c1 ?c2 ?c3 ?c4 ?c5 ?_)
            case c1 => exact new_cell1 _ _ _
            case c2 => intro u hu; simp at hu; subst hu; rfl
            case c3 => unfold maxLen; first | omega | (simp; omega)
            case c4 => first | omega | (simp; omega)
            case c5 => have := hbel2.size; simp; omega
            intro v2 w2 hown3 hgrow2 _
            have hbel3 := (hbel2.alloc hbel2.size _).grown hgrow2 (by have := hbel2.size; simp; omega) (fun j hj => (hown2.lt j hj).1)
            have hown4 := own_app2 hown3 (show (insTo T s.toList (k + 1)).1 = _ ++ [s.toList] ++ [T[k]] from by rw [hn.out])
            clear hown2 hown3 hbel hbel2 hgrow2
            go_wp2_with fail
            go_roundw
            case rel => exact ⟨k + 1, by omega, by go_num, by rw [hn.out], hown4, hbel3⟩
            case measure => simp [intOf]; omega
        · have hn := Lib.hid (ins_done hlt hD)
          go_wp2_with (at_builtin; refine wpList_append_own _ rfl (.tmp 30) (.tmp 32) 33 rfl w.heap.size 9 i0 (.string ⟨#[]⟩) 1 16 Tryz.underlying33 hi hz0 hz1 hz2 rfl (by decide) _ _ _ rfl (hown1.alloc _) ⟨wr.heap.size, 0, none⟩ 1 1 [.string ⟨T[k].toArray⟩] rfl rfl ?c1 ?c2 ?c3 ?c4 ?c5 ?_)
          case c1 => exact new_cell1 _ _ _
          case c2 => intro u hu; simp at hu; subst hu; rfl
          case c3 => unfold maxLen; first | omega | (simp; omega)
          case c4 => first | omega | (simp; omega)
          case c5 => have := hbel.size; simp; omega
          intro v2 w2 hown3 hgrow2 _
          have hbel3 := (hbel.alloc hbel.size _).grown hgrow2 (by have := hbel.size; simp; omega) (fun j hj => (hown1.lt j hj).1)
          have hown4 := own_app hown3 (show (insTo T s.toList (k + 1)).1 = _ ++ [T[k]] from by rw [hn.out])
          clear hown1 hown3 hbel hgrow2
          go_wp2_with fail
          go_roundw
          case rel => exact ⟨k + 1, by omega, by go_num, by rw [hn.out], hown4, hbel3⟩
          case measure => simp [intOf]; omega
      · have e : k = T.length := by omega
        subst e
        cases hD : (insTo T s.toList T.length).2
        · have hn := Lib.hid (show insAll T s.toList = (insTo T s.toList T.length).1 ++ [s.toList] from by unfold insAll; rw [if_neg (by rw [hD]; decide)])
          go_wp2_with (at_builtin; refine wpList_append_own _ rfl (.tmp 37) (.tmp 39) 33 rfl w.heap.size 9 i0 (.string ⟨#[]⟩) 1 16 Tryz.underlying33 hi hz0 hz1 hz2 rfl (by decide) _ _ _ rfl (hown1.alloc _) ⟨wr.heap.size, 0, none⟩ 1 1 [.string s] rfl rfl ?c1 ?c2 ?c3 ?c4 ?c5 ?_)
          case c1 => exact new_cell1 _ _ _
          case c2 => intro u hu; simp at hu; subst hu; rfl
          case c3 => unfold maxLen; first | omega | (simp; omega)
          case c4 => first | omega | (simp; omega)
          case c5 => have := hbel.size; simp; omega
          intro v1 w1 hown2 hgrow1 _
          have hbel2 := (hbel.alloc hbel.size _).grown hgrow1 (by have := hbel.size; simp; omega) (fun j hj => (hown1.lt j hj).1)
          rw [← enc_toList] at hown2
          have hown3 := own_app hown2 hn.out
          clear hown1 hown2 hgrow1 hbel
          go_wp2_with fail
          go_ret
          exact ⟨_, rfl, by rw [hp.out]; exact own_base hown3 hB, hbel2.mono hB⟩
        · have hn := Lib.hid (show insAll T s.toList = (insTo T s.toList T.length).1 from by unfold insAll; rw [if_pos hD])
          go_wp2_with fail
          go_ret
          exact ⟨_, rfl, by rw [hp.out, hn.out]; exact own_base hown1 hB, hbel.mono hB⟩
end Go.Proofs.YtkmpbkgmdfeicaaGreat.Tab4
/- The document's own table and fresh texts: New, Dec, Fresh; what is light. -/
namespace Go.Proofs.YtkmpbkgmdfeicaaGreat.Tab5
set_option linter.unusedVariables false
set_option linter.unusedSimpArgs false
open Go.RowKit Go.Sort Go.Proofs Go.Proofs.YtkmpbkgmdfeicaaGreat.Plain Go.Proofs.YtkmpbkgmdfeicaaGreat.Tab1 Go.Proofs.YtkmpbkgmdfeicaaGreat.Tab2 Go.Proofs.YtkmpbkgmdfeicaaGreat.Tab3 Go.Proofs.YtkmpbkgmdfeicaaGreat.Tab4 Go.Proofs.YtkmpbkgmdfeicaaGreat.TabP
def newTo (ls : List Str) (k : Nat) : List Str := (ls.take k).foldl putL []
theorem newTo_succ {ls : List Str} {k : Nat} (h : k < ls.length) : newTo ls (k + 1) = putL (newTo ls k) ls[k] := by
  unfold newTo
  rw [List.take_succ_eq_append_getElem h, List.foldl_append]
  rfl
theorem putL_len (T : List Str) (s : Str) : (putL T s).length ≤ T.length + 1 := by
  unfold putL
  split
  · omega
  · have h := insTo_len T s T.length (Nat.le_refl _)
    unfold insAll
    split
    · exact h.1
    · rename_i hd
      have := h.2 (by simpa using hd)
      simp; omega
theorem newTo_len (ls : List Str) (k : Nat) (h : k ≤ ls.length) : (newTo ls k).length ≤ k := by
  induction k with
  | zero => simp [newTo]
  | succ k ih =>
    rw [newTo_succ (by omega)]
    have := ih (by omega)
    have := putL_len (newTo ls k) ls[k]
    omega
structure Inv (T : List Str) (s : Str) (k : Nat) (a : List Str) (d : Bool) : Prop where
  up : a.Pairwise (· < ·)
  mem : ∀ x, x ∈ a ↔ x ∈ T.take k ∨ (d = true ∧ x = s)
  far : ∀ x ∈ a, ∀ j, (h : j < T.length) → k ≤ j → x < T[j]
  low : d = false → ∀ x ∈ a, x < s
theorem inv_step {T : List Str} {s : Str} (hT : T.Pairwise (· < ·)) (hs : s ∉ T) : ∀ k, k ≤ T.length → Inv T s k (insTo T s k).1 (insTo T s k).2 := by
  have hp := List.pairwise_iff_getElem.1 hT
  intro k
  induction k with
  | zero => intro _; exact ⟨by simp [insTo], by simp [insTo], by simp [insTo], by simp [insTo]⟩
  | succ k ih =>
    intro hk
    have h := ih (by omega)
    have hlt : k < T.length := by omega
    have htake : T.take (k + 1) = T.take k ++ [T[k]] := List.take_succ_eq_append_getElem hlt
    cases hd : (insTo T s k).2
    · have hlow := h.low hd
      by_cases hsx : s < T[k]
      · rw [ins_put hlt hd (by rw [bytesLess_eq]; exact decide_eq_true hsx)]
        refine ⟨?_, ?_, ?_, by simp⟩
        · rw [List.pairwise_append, List.pairwise_append]
          refine ⟨⟨h.up, by simp, fun x hx y hy => ?_⟩, by simp, fun x hx y hy => ?_⟩
          · rw [List.mem_singleton] at hy; subst hy; exact hlow x hx
          · rw [List.mem_singleton] at hy; subst hy
            rw [List.mem_append, List.mem_singleton] at hx
            rcases hx with hx | hx
            · exact h.far x hx k hlt (Nat.le_refl _)
            · subst hx; exact hsx
        · intro x
          rw [htake]
          have := h.mem x
          rw [hd] at this
          simp only [List.mem_append, List.mem_singleton] at *
          rw [this]
          simp
          constructor
          · rintro ((h | h) | h) <;> simp [h]
          · rintro ((h | h) | h) <;> simp [h]
        · intro x hx j hj hkj
          rw [List.mem_append, List.mem_append, List.mem_singleton, List.mem_singleton] at hx
          rcases hx with (hx | hx) | hx
          · exact h.far x hx j hj (by omega)
          · subst hx; exact List.lt_trans hsx (hp k j hlt hj (by omega))
          · subst hx; exact hp k j hlt hj (by omega)
      · rw [ins_no hlt hd (by rw [bytesLess_eq]; exact decide_eq_false hsx)]
        have hne : T[k] ≠ s := fun e => hs (by rw [← e]; exact List.getElem_mem _)
        have hxs : T[k] < s := Std.lt_of_le_of_ne (List.not_lt.1 hsx) hne
        refine ⟨?_, ?_, ?_, ?_⟩
        · rw [List.pairwise_append]
          refine ⟨h.up, by simp, fun x hx y hy => ?_⟩
          rw [List.mem_singleton] at hy; subst hy
          exact h.far x hx k hlt (Nat.le_refl _)
        · intro x
          rw [htake]
          have := h.mem x
          rw [hd] at this
          simp only [List.mem_append, List.mem_singleton] at *
          rw [this]
          simp
        · intro x hx j hj hkj
          rw [List.mem_append, List.mem_singleton] at hx
          rcases hx with hx | hx
          · exact h.far x hx j hj (by omega)
          · subst hx; exact hp k j hlt hj (by omega)
        · intro _ x hx
          rw [List.mem_append, List.mem_singleton] at hx
          rcases hx with hx | hx
          · exact hlow x hx
          · subst hx; exact hxs
    · rw [ins_done hlt hd]
      refine ⟨?_, ?_, ?_, by simp⟩
      · rw [List.pairwise_append]
        refine ⟨h.up, by simp, fun x hx y hy => ?_⟩
        rw [List.mem_singleton] at hy; subst hy
        exact h.far x hx k hlt (Nat.le_refl _)
      · intro x
        rw [htake]
        have := h.mem x
        rw [hd] at this
        simp only [List.mem_append, List.mem_singleton] at *
        rw [this]
        simp
        constructor
        · rintro ((h | h) | h) <;> simp [h]
        · rintro ((h | h) | h) <;> simp [h]
      · intro x hx j hj hkj
        rw [List.mem_append, List.mem_singleton] at hx
        rcases hx with hx | hx
        · exact h.far x hx j hj (by omega)
        · subst hx; exact hp k j hlt hj (by omega)
theorem putL_rising {T : List Str} {s : Str} (hT : T.Pairwise (· < ·)) : (putL T s).Pairwise (· < ·) ∧ ∀ x, x ∈ putL T s ↔ x ∈ T ∨ x = s := by
  unfold putL
  split
  · rename_i h
    refine ⟨hT, fun x => ⟨fun hx => .inl hx, ?_⟩⟩
    rintro (hx | hx)
    · exact hx
    · subst hx; exact h
  · rename_i hs
    have h := inv_step hT hs T.length (Nat.le_refl _)
    unfold insAll
    split
    · rename_i hd
      refine ⟨h.up, fun x => ?_⟩
      rw [h.mem, List.take_length, hd]
      simp
    · rename_i hd
      have hd' : (insTo T s T.length).2 = false := by simpa using hd
      refine ⟨?_, fun x => ?_⟩
      · rw [List.pairwise_append]
        refine ⟨h.up, by simp, fun x hx y hy => ?_⟩
        rw [List.mem_singleton] at hy; subst hy
        exact h.low hd' x hx
      · rw [List.mem_append, h.mem, List.take_length, hd']
        simp
theorem newTo_rising (ls : List Str) : ∀ k, k ≤ ls.length → (newTo ls k).Pairwise (· < ·) ∧ ∀ x, x ∈ newTo ls k ↔ x ∈ ls.take k := by
  intro k
  induction k with
  | zero => intro _; simp [newTo]
  | succ k ih =>
    intro hk
    obtain ⟨h1, h2⟩ := ih (by omega)
    rw [newTo_succ (by omega), List.take_succ_eq_append_getElem (by omega)]
    obtain ⟨h3, h4⟩ := putL_rising (s := ls[k]) h1
    refine ⟨h3, fun x => ?_⟩
    rw [h4, h2, List.mem_append, List.mem_singleton]
theorem newTo_tab (ls : List Str) : newTo ls ls.length = tab ls := by
  obtain ⟨h1, h2⟩ := newTo_rising ls ls.length (Nat.le_refl _)
  exact eq_of_rising h1 (tab_sorted ls) fun x => by rw [h2, List.take_length, mem_tab]
def RowPost (M : List Str) (w : World) (e : Ending) (w' : World) : Prop := ∃ v, e = .returned v ∧ w'.ownsRow w.heap.size 9 1 v M.length (M.map encStr) ∧ Below w.heap.size w w'
end Go.Proofs.YtkmpbkgmdfeicaaGreat.Tab5
/- What is light; decimal numerals and fresh texts of the document. -/
namespace Go.Proofs.YtkmpbkgmdfeicaaGreat.Tab6
set_option linter.unusedVariables false
set_option linter.unusedSimpArgs false
open Go.RowKit Go.Sort Go.Proofs Go.Proofs.YtkmpbkgmdfeicaaGreat.Plain Go.Proofs.YtkmpbkgmdfeicaaGreat.Tab1 Go.Proofs.YtkmpbkgmdfeicaaGreat.Tab2 Go.Proofs.YtkmpbkgmdfeicaaGreat.Tab3 Go.Proofs.YtkmpbkgmdfeicaaGreat.Tab4 Go.Proofs.YtkmpbkgmdfeicaaGreat.Tab5 Go.Proofs.YtkmpbkgmdfeicaaGreat.TabP
def lightB (ls : List Str) : Bool := decide (ls.length ≤ 40) && ls.all fun s => decide (s.length ≤ 40)
theorem light (A : Option Addr) (c : Nat) (ls : List Str) (w : World) (hL : ls.length ≤ maxLen) (hw : ∀ s ∈ ls, s.length ≤ maxLen) (hA : SRow w A ls) :
    Calls Tryz.prog 69 #[.slice A ls.length c] w fun e w' => e = .returned (.bool (lightB ls)) ∧ w = w' := by
  unfold maxLen at hL
  by_cases h40 : ls.length ≤ 40
  · go_enter Tryz.func69, Tryz.ntmps69
    go_wp2
    go_loop [10] (fun i => ∃ k : Nat, k ≤ ls.length ∧ i = .int .i64 k ∧ Hid (∀ j, (h : j < ls.length) → j < k → ls[j].length ≤ 40)) (fun i => ls.length - (intOf i).toNat)
    case atStart => exact ⟨0, by omega, rfl, Lib.hid fun j _ h => by omega⟩
    case round =>
      obtain ⟨k, hk, rfl, hall⟩ := hrel
      by_cases hlt : k < ls.length
      · obtain ⟨g, off, rfl, hg, hcell⟩ := hA (by omega)
        have hx := hcell k hlt
        have hm := hw ls[k] (List.getElem_mem _)
        unfold maxLen at hm
        clear hcell
        by_cases h : ls[k].length ≤ 40
        · have hnext : Hid (∀ j, (h : j < ls.length) → j < k + 1 → ls[j].length ≤ 40) := Lib.hid fun j hj h2 => by
            by_cases e : j = k
            · subst e; exact h
            · exact hall.out j hj (by omega)
          clear hall
          go_wp2_with fail
          go_round
          case rel => exact ⟨k + 1, by omega, by go_num, hnext⟩
          case measure => simp [intOf]; omega
        · have hf : Hid (lightB ls = false) := Lib.hid (by
            unfold lightB
            have : (ls.all fun s => decide (s.length ≤ 40)) = false := by
              rw [List.all_eq_false]
              exact ⟨ls[k], List.getElem_mem _, by simpa using h⟩
            rw [this]; simp)
          clear hall
          go_wp2_with fail
          go_ret
          exact ⟨ret_bool hf.out.symm, rfl⟩
      · have hf : Hid (lightB ls = true) := Lib.hid (by
          unfold lightB
          have : (ls.all fun s => decide (s.length ≤ 40)) = true := by
            rw [List.all_eq_true]
            intro x hx
            obtain ⟨j, hj, rfl⟩ := List.getElem_of_mem hx
            exact decide_eq_true (hall.out j hj (by omega))
          rw [this, decide_eq_true h40]; rfl)
        clear hall
        go_wp2_with fail
        go_ret
        exact ⟨ret_bool hf.out.symm, rfl⟩
  · have hf : Hid (lightB ls = false) := Lib.hid (by unfold lightB; rw [decide_eq_false h40]; rfl)
    go_enter Tryz.func69, Tryz.ntmps69
    go_wp2
    go_ret
    exact ⟨ret_bool hf.out.symm, rfl⟩
def dgt (m : Nat) : UInt8 := UInt8.ofNat (48 + m % 10)
def oneB (c : UInt8) : ByteArray := ⟨#[c]⟩
theorem oneB_size (c : UInt8) : (oneB c).size = 1 := rfl
theorem conv1 (w : World) (m : Nat) : (convert 42 9 (.slice (some ⟨w.heap.size, 0, none⟩) 1 1)).run Tryz.prog (w.alloc (.cells #[.int .u8 (48 + (m : Int) % 10)] 5)) = .ok (.string (oneB (dgt m))) (w.alloc (.cells #[.int .u8 (48 + (m : Int) % 10)] 5)) := by
  have h := run_convert_bytes_arg (P := Tryz.prog) (w := w.alloc (.cells #[.int .u8 (48 + (m : Int) % 10)] 5)) 42 5 Tryz.underlying42 Tryz.underlying5 w.heap.size 0 1 1 [48 + (m : Int) % 10] rfl (fun i hi => by
    have : i = 0 := by omega
    subst this
    rw [Lib.cell_of_heap (heap_alloc_new w _)]; rfl) 9 Tryz.underlying9
  rw [h]
  have e : (48 + (m : Int) % 10).toNat = 48 + m % 10 := by omega
  unfold strOfNums
  rw [List.map_singleton, e]
  rfl
theorem cat_bytes (c : UInt8) (l : Str) : (oneB c ++ ⟨l.toArray⟩ : ByteArray) = ⟨(c :: l).toArray⟩ := by
  unfold oneB
  apply ByteArray.ext
  rw [ByteArray.data_append]
  apply Array.ext'
  simp
theorem dec_pow {m k : Nat} (hk : k < 20) (h : m < 10 ^ (20 - k)) (h10 : ¬ m < 10) : m / 10 < 10 ^ (20 - (k + 1)) ∧ k + 1 < 20 := by
  have hk2 : k + 1 < 20 := by
    rcases Nat.lt_or_ge (k + 1) 20 with h1 | h1
    · exact h1
    · have : k = 19 := by omega
      subst this
      exact absurd h h10
  refine ⟨?_, hk2⟩
  rw [show 20 - k = (20 - (k + 1)) + 1 from by omega, Nat.pow_succ] at h
  omega
def DecPost (N : Nat) (w : World) (e : Ending) (w' : World) : Prop := e = .returned (.string ⟨(Lib.decDigits N).toArray⟩) ∧ Below w.heap.size w w'
end Go.Proofs.YtkmpbkgmdfeicaaGreat.Tab6
/- A table's texts by place, all of them, and with more. -/
namespace Go.Proofs.YtkmpbkgmdfeicaaGreat.Tab7
set_option linter.unusedVariables false
set_option linter.unusedSimpArgs false
open Go.RowKit Go.Sort Go.Proofs Go.Proofs.YtkmpbkgmdfeicaaGreat.Plain Go.Proofs.YtkmpbkgmdfeicaaGreat.Tab1 Go.Proofs.YtkmpbkgmdfeicaaGreat.Tab2 Go.Proofs.YtkmpbkgmdfeicaaGreat.Tab3 Go.Proofs.YtkmpbkgmdfeicaaGreat.Tab4 Go.Proofs.YtkmpbkgmdfeicaaGreat.Tab5 Go.Proofs.YtkmpbkgmdfeicaaGreat.Tab6 Go.Proofs.YtkmpbkgmdfeicaaGreat.TabP
section
variable {P : Program} (w : World)
theorem run_append_of_nil (base : Nat) (t ty e : TypeId) (i : TypeInfo) (size : Nat) (ht : P.underlying t = some (.slice e)) (hi : P.info? e = some i)
    (v : Value) (n : Nat) (xs : List Value) (hown : w.ownsRow base e size v n xs) (c : Nat) : (Builtin.append_ #[t, t] ty #[v, .slice none 0 c]).run P w = .ok v w := by
  rcases hown.2 with ⟨rfl, rfl⟩ | ⟨g, cap, cur, rfl, _, _, hnc, _⟩
  · simp [Builtin.append_, run_underlying ht, sizeOf, typeInfo, hi, Builtin.lenOf, Builtin.firstCells]
  · simp [Builtin.append_, run_underlying ht, sizeOf, typeInfo, hi, Builtin.lenOf, Builtin.firstCells, hnc, storeCells]
theorem add_off (b off j : Nat) : ((⟨b, off, none⟩ : Addr).add j) = ⟨b, off + j, none⟩ := by
  unfold Addr.add
  split
  · rename_i h; subst h; rfl
  · simp
/-- append of a slice of texts onto a row of the call's own. -/
theorem run_append_src (base : Nat) (t ty e : TypeId) (i : TypeInfo) (z : Value) (ht : P.underlying t = some (.slice e)) (hi : P.info? e = some i) (hz : i.zero = some z)
    (hsize : i.size = 1) (hby : i.bytes = 16) (hzs : z.cells.size = 1)
    (v : Value) (L : List Str) (hown : w.ownsRow base e 1 v L.length (L.map encStr)) (A : Option Addr) (c : Nat) (T : List Str) (hr : SRow w A T)
    (hbig : L.length + T.length ≤ 1000000) (hbase : base ≤ w.heap.size) :
    ∃ v' w', (Builtin.append_ #[t, t] ty #[v, .slice A T.length c]).run P w = .ok v' w' ∧ w'.ownsRow base e 1 v' (L ++ T).length ((L ++ T).map encStr) ∧ w.grownBy w' v.ownBlock := by
  rcases A with _ | ad
  · have hm : T = [] := by
      rcases Nat.eq_zero_or_pos T.length with h0 | h0
      · exact List.eq_nil_of_length_eq_zero h0
      · obtain ⟨_, _, h, _⟩ := hr h0
        cases h
    subst hm
    exact ⟨v, w, run_append_of_nil w base t ty e i 1 ht hi v _ _ hown c, by simpa using hown, World.grownBy.refl w _⟩
  · have hcells : ∀ j u, (T.map encStr)[j]? = some u → w.cell? (ad.add j) = some u := by
      intro j u hu
      have hj : j < T.length := by
        rcases Nat.lt_or_ge j T.length with h | h
        · exact h
        · rw [List.getElem?_eq_none (by simpa using h)] at hu; cases hu
      obtain ⟨b, off, h, _, hc⟩ := hr (by omega)
      injection h with h
      subst h
      rw [add_off, hc j hj, ← hu, List.getElem?_map, List.getElem?_eq_getElem hj]
      rfl
    obtain ⟨v', w', hrun, h2, h3, _⟩ := run_append_own (P := P) w base t ty e i z 1 16 ht hi hz hsize hby hzs (by decide) v L.length (L.map encStr) hown ad T.length c (T.map encStr) (by simp) hcells
      (fun u hu => by
        obtain ⟨x, _, rfl⟩ := List.mem_map.1 hu
        rfl) (by unfold maxLen; omega) (by omega) hbase
    exact ⟨v', w', hrun, by rw [List.length_append, List.map_append]; exact h2, h3⟩
theorem wpList_append_src {ops : Array Oper} {rest : List Oper} {o : Oper} {a : Act} {Q : Exit → Act → World → Prop} (hgd : o.guard = none) (s x : Operand) (t : TypeId)
    (ho : o.op = .call { callee := .builtin .append, args := #[s, x], argTypes := #[t, t] })
    (base : Nat) (e : TypeId) (i : TypeInfo) (z : Value) (ht : P.underlying t = some (.slice e)) (hi : P.info? e = some i) (hz : i.zero = some z)
    (hsize : i.size = 1) (hby : i.bytes = 16) (hzs : z.cells.size = 1)
    (v : Value) (L : List Str) (hs : a.eval s = v) (hown : w.ownsRow base e 1 v L.length (L.map encStr)) (A : Option Addr) (c : Nat) (T : List Str) (hx : a.eval x = .slice A T.length c) (hr : SRow w A T)
    (hbig : L.length + T.length ≤ 1000000) (hbase : base ≤ w.heap.size)
    (h : ∀ v' w', w'.ownsRow base e 1 v' (L ++ T).length ((L ++ T).map encStr) → w.grownBy w' v.ownBlock → wpList P ops Q rest (a.put o.dst v') w') : wpList P ops Q (o :: rest) a w := by
  obtain ⟨v', w', hrun, h2, h3⟩ := run_append_src (P := P) w base t o.type e i z ht hi hz hsize hby hzs v L hown A c T hr hbig hbase
  exact Lib.wpList_append_run w hgd s x t t ho v _ hs hx v' w' hrun (h v' w' h2 h3)
end
theorem cloneC (A : Option Addr) (c : Nat) (T : List Str) (w : World) (hn : T.length ≤ 1000000) (h : SRow w A T) : Calls Tryz.prog 55 #[.slice A T.length c] w (RowPost T w) := by
  rcases A with _ | ad
  · have : T = [] := by
      cases T with
      | nil => rfl
      | cons a l => obtain ⟨_, _, e, _⟩ := h (by simp); cases e
    subst this
    refine (Tryz.slices_Clone_string_nil _ _ _).mono ?_
    rintro e w' ⟨rfl, rfl⟩
    exact ⟨_, rfl, World.ownsRow_nil _ _ _ _, Below.refl _ _⟩
  · by_cases h0 : 0 < T.length
    · obtain ⟨b, off, e, _, hc⟩ := h h0
      injection e with e
      subst e
      have := Tryz.slices_Clone_string b off T.length c (T.map enB) w (by simp) (by omega) (fun j hj => by
        rw [List.length_map] at hj
        rw [hc j hj, List.getD_eq_getElem?_getD, List.getElem?_map, List.getElem?_eq_getElem hj]; rfl)
      rw [List.take_of_length_le (by simp), map_enB] at this
      refine this.mono ?_
      rintro e w' ⟨v, rfl, h1, _, h2⟩
      exact ⟨v, rfl, h1, h2⟩
    · have : T = [] := List.eq_nil_of_length_eq_zero (by omega)
      subst this
      refine (Tryz.slices_Clone_string_zero ad c w).mono ?_
      rintro e w' ⟨v, rfl, h1, _, h2⟩
      exact ⟨v, rfl, h1, h2⟩
theorem all (t : Nat) (A : Option Addr) (T : List Str) (c : Nat) (w : World) (h : w.cell? ⟨t, 0, none⟩ = some (.slice A T.length c)) (hT : T.length ≤ 1000000) (hr : SRow w A T) :
    Calls Tryz.prog 62 #[.pointer (some ⟨t, 0, none⟩)] w (RowPost T w) := by
  go_enter Tryz.func62, Tryz.ntmps62
  go_wp2_with (first | (go_at_call 107; refine (kept _ _ _ h).mono ?_; rintro e w' ⟨rfl, rfl⟩) | (go_at_call 55; refine (cloneC A c T _ hT hr).mono ?_; rintro e w' ⟨v, rfl, h1, h2⟩))
  go_ret
  exact ⟨_, rfl, h1, h2⟩
theorem all_nil (w : World) : Calls Tryz.prog 62 #[.pointer none] w fun e w' => e = .returned (.slice none 0 0) ∧ w = w' := by
  go_enter Tryz.func62, Tryz.ntmps62
  go_wp2_with (first | (go_at_call 107; refine (kept_nil _).mono ?_; rintro e w' ⟨rfl, rfl⟩) | (go_at_call 55; refine (Tryz.slices_Clone_string_nil _ _ _).mono ?_; rintro e w' ⟨rfl, rfl⟩))
  go_ret
  exact ⟨rfl, rfl⟩
set_option maxRecDepth 100000 in
theorem grow (n : Nat) (w : World) (hn : n ≤ 1000000) : Calls Tryz.prog 135 #[.slice none 0 0, .int .i64 n] w (RowPost [] w) := by
  obtain ⟨i0, hi, hz0, hz1, hz2⟩ := info_parts infoStr
  by_cases h0 : 0 < n
  · have hz : 0 < i0.size := by rw [hz1]; omega
    have hby : n * i0.bytes ≤ 281474976710656 := by rw [hz2]; omega
    have hrun := Lib.run_append_nil_zeros (P := Tryz.prog) w 33 3 33 9 i0 (.string ⟨#[]⟩) .i64 .i64 Tryz.underlying33 Tryz.underlying3 hi hz0 n h0 hz (by omega) hby
    have hg := grownCap_ge w n 0 9
    have hm := grownCap_le_maxLen w n 0 9 (by unfold maxLen; omega)
    have hm' := hm
    have hsz : (Builtin.zeroCells (Value.string ⟨#[]⟩).cells n ++ Builtin.zeroCells (Value.string ⟨#[]⟩).cells (grownCap w n 0 9 - n)).size = grownCap w n 0 9 * 1 := by
      rw [Array.size_append, size_zeroCells, size_zeroCells]
      show n * 1 + (grownCap w n 0 9 - n) * 1 = _
      omega
    generalize Builtin.zeroCells (Value.string ⟨#[]⟩).cells n ++ Builtin.zeroCells (Value.string ⟨#[]⟩).cells (grownCap w n 0 9 - n) = cells at *
    generalize grownCap w n 0 9 = gc at *
    have Hsz := Lib.hid hsz
    have Hm := Lib.hid hm'
    have Hrun := Lib.hid hrun
    clear hsz hz hby hm' hrun
    unfold maxLen at hm
    go_enter Tryz.func135, Tryz.ntmps135
    go_wp2_with (refine Lib.wpList_append_run (P := Tryz.prog) (o := ⟨some 22, _, _, _, _, _⟩) w rfl (.tmp 20) (.tmp 21) 33 3 rfl (.slice none 0 0) (.int .i64 n) ?hs ?hx (.slice (some ⟨w.heap.size, 0, none⟩) n gc) (w.drew.alloc (.cells cells 9)) (by exact Hrun.out) ?_)
    case hs => rfl
    case hx => rfl
    go_wp2
    go_ret
    exact ⟨_, rfl, World.ownsRow_made w.drew cells gc (Nat.le_refl _) Hm.out Hsz.out, (Below.refl _ _).drew.alloc (Nat.le_refl _) _⟩
  · have : n = 0 := by omega
    subst this
    go_enter Tryz.func135, Tryz.ntmps135
    go_wp2
    go_ret
    exact ⟨_, rfl, World.ownsRow_nil _ _ _ _, Below.refl _ _⟩
set_option maxHeartbeats 800000 in
set_option maxRecDepth 100000 in
theorem concat (b : Nat) (A1 A2 : Option Addr) (c1 c2 : Nat) (T1 T2 : List Str) (w : World) (h1 : T1.length ≤ 100000) (h2 : T2.length ≤ 100000) (hb : b < w.heap.size)
    (hc1 : w.cell? ⟨b, 0, none⟩ = some (.slice A1 T1.length c1)) (hc2 : w.cell? ⟨b, 1, none⟩ = some (.slice A2 T2.length c2)) (hr1 : SRow w A1 T1) (hr2 : SRow w A2 T2) :
    Calls Tryz.prog 85 #[.slice (some ⟨b, 0, none⟩) 2 2] w (RowPost (T1 ++ T2) w) := by
  obtain ⟨i0, hi, hz0, hz1, hz2⟩ := info_parts infoStr
  have HR1 := Lib.hid hr1
  have HR2 := Lib.hid hr2
  clear hr1 hr2
  go_enter Tryz.func85, Tryz.ntmps85
  go_wp2_with fail
  go_loop [3, 11] (fun s i => (s = .int .i64 0 ∧ i = .int .i64 0) ∨ (s = .int .i64 T1.length ∧ i = .int .i64 1) ∨ (s = .int .i64 ((T1.length + T2.length : Nat) : Int) ∧ i = .int .i64 2)) (fun _ i => 2 - (intOf i).toNat)
  case atStart => exact .inl ⟨rfl, rfl⟩
  case round =>
    rcases hrel with ⟨rfl, rfl⟩ | ⟨rfl, rfl⟩ | ⟨rfl, rfl⟩
    · go_wp2_with fail
      go_round
      case rel => exact .inr (.inl ⟨by simp, rfl⟩)
      case measure => simp [intOf]
    · go_wp2_with fail
      go_round
      case rel => exact .inr (.inr ⟨by simp, rfl⟩)
      case measure => simp [intOf]
    · go_wp2_with fail
      rw [← Int.natCast_add]
      refine (grow (T1.length + T2.length) w (by omega)).mono ?_
      rintro e w1 ⟨v1, rfl, hown1, hbel1⟩
      go_wp2_with fail
      go_loopw [6, 27] (fun v i wr => Below w.heap.size w wr ∧ ((wr.ownsRow w.heap.size 9 1 v ([] : List Str).length (([] : List Str).map encStr) ∧ i = .int .i64 0) ∨ (wr.ownsRow w.heap.size 9 1 v T1.length (T1.map encStr) ∧ i = .int .i64 1) ∨ (wr.ownsRow w.heap.size 9 1 v (T1 ++ T2).length ((T1 ++ T2).map encStr) ∧ i = .int .i64 2))) (fun _ i _ => 2 - (intOf i).toNat)
      case atStart => exact ⟨hbel1, .inl ⟨hown1, rfl⟩⟩
      case round =>
        obtain ⟨hbel, ⟨hown, rfl⟩ | ⟨hown, rfl⟩ | ⟨hown, rfl⟩⟩ := hrel
        · have d1 := (hbel.cell (p := ⟨b, 0, none⟩) hb).trans hc1
          have hr := HR1.out.keep hbel
          clear hown1 hbel1
          go_wp2_with (at_builtin; refine wpList_append_src _ rfl _ _ 33 rfl w.heap.size 9 i0 (.string ⟨#[]⟩) Tryz.underlying33 hi hz0 hz1 hz2 rfl _ [] rfl hown A1 c1 T1 rfl hr (by first | omega | (simp; omega)) hbel.size ?_)
          intro v2 w2 hown2 hgrow
          have hbel2 := hbel.grown hgrow hbel.size (fun k hk => (hown.lt k hk).1)
          clear hown hbel hgrow
          go_wp2_with fail
          go_roundw
          case rel => exact ⟨hbel2, .inr (.inl ⟨hown2, rfl⟩)⟩
          case measure => simp [intOf]
        · have d1 := (hbel.cell (p := ⟨b, 1, none⟩) hb).trans hc2
          have hr := HR2.out.keep hbel
          clear hown1 hbel1
          go_wp2_with (at_builtin; refine wpList_append_src _ rfl _ _ 33 rfl w.heap.size 9 i0 (.string ⟨#[]⟩) Tryz.underlying33 hi hz0 hz1 hz2 rfl _ T1 rfl hown A2 c2 T2 rfl hr (by first | omega | (simp; omega)) hbel.size ?_)
          intro v2 w2 hown2 hgrow
          have hbel2 := hbel.grown hgrow hbel.size (fun k hk => (hown.lt k hk).1)
          clear hown hbel hgrow
          go_wp2_with fail
          go_roundw
          case rel => exact ⟨hbel2, .inr (.inr ⟨by rw [List.length_append, List.map_append]; exact hown2, rfl⟩)⟩
          case measure => simp [intOf]
        · clear hown1 hbel1
          go_wp2_with fail
          go_ret
          exact ⟨_, rfl, hown, hbel⟩
abbrev NewPost' := NewPost
end Go.Proofs.YtkmpbkgmdfeicaaGreat.Tab7
/- Rows of what fits tokens: closures over a word, or over a kind. -/
namespace Go.Proofs.YtkmpbkgmdfeicaaGreat.Qry4
set_option linter.unusedVariables false
set_option linter.unusedSimpArgs false
open Go.RowKit Go.Sort Go.Proofs Go.Proofs.YtkmpbkgmdfeicaaGreat.Plain Go.Proofs.YtkmpbkgmdfeicaaGreat.SynP Go.Proofs.YtkmpbkgmdfeicaaGreat.TabP Go.Proofs.YtkmpbkgmdfeicaaGreat.Tab1 Go.Proofs.YtkmpbkgmdfeicaaGreat.Grown Go.Proofs.YtkmpbkgmdfeicaaGreat.SynA Go.Proofs.YtkmpbkgmdfeicaaGreat.QryP
set_option linter.unusedVariables false
set_option linter.unusedSimpArgs false
inductive Ft where
  | word (s : Str)
  | kind (k : Int)
/-- A token that may stand there. -/
def Ft.fits (t : Tk) : Ft → Bool
  | .word s => decide (t.kind = 2) && decide (t.text = ⟨s.toArray⟩)
  | .kind k => decide (t.kind = k)
/-- The value of such a function, its captured variable in a block of its own. -/
def FnAt (w : World) (v : Value) : Ft → Prop
  | .word s => ∃ b : Nat, w.heap[b]? = some (.cells #[.string ⟨s.toArray⟩] 9 (0, 0)) ∧ v = .func (.func 208) #[] #[.pointer (some ⟨b, 0, none⟩)]
  | .kind k => ∃ b : Nat, w.heap[b]? = some (.cells #[.int .i64 k] 3 (0, 0)) ∧ v = .func (.func 257) #[] #[.pointer (some ⟨b, 0, none⟩)]
def FnsAt (w : World) (vs : List Value) (F : List Ft) : Prop := vs.length = F.length ∧ ∀ (j : Nat) (v : Value) (f : Ft), vs[j]? = some v → F[j]? = some f → FnAt w v f
theorem heap_lt {w : World} {b : Nat} {o : Obj} (h : w.heap[b]? = some o) : b < w.heap.size := (Array.getElem?_eq_some_iff.1 h).1
/-- Blocks that are no row of such functions are kept. -/
def Keep (w w' : World) : Prop := ∀ (b : Nat) (c : Array Value) (e : TypeId), w.heap[b]? = some (Obj.cells c e (0, 0)) → e ≠ 199 → w'.heap[b]? = some (Obj.cells c e (0, 0))
theorem FnAt.keep {w w' : World} {v : Value} {f : Ft} (h : FnAt w v f) (hk : Keep w w') : FnAt w' v f := by
  cases f with
  | word s =>
    obtain ⟨b, h1, h2⟩ := h
    exact ⟨b, hk b _ _ h1 (by show (_ : Nat) ≠ _; decide), h2⟩
  | kind k =>
    obtain ⟨b, h1, h2⟩ := h
    exact ⟨b, hk b _ _ h1 (by show (_ : Nat) ≠ _; decide), h2⟩
theorem keep_below {w w' : World} (hb : Below w.heap.size w w') : Keep w w' := fun b c e h _ => (hb.block b (heap_lt h)).trans h
theorem keep_grown {w w' : World} {B n : Nat} {v : Value} {vs : List Value} (hown : w.ownsRow B 199 1 v n vs) (hg : w.grownBy w' v.ownBlock) : Keep w w' := fun b c e h he => by
  rw [hg.block b (heap_lt h) fun hb => ?_, h]
  rcases hown.2 with ⟨rfl, _⟩ | ⟨g, cap, cur, rfl, _, hh, _⟩
  · simp [Value.ownBlock] at hb
  · simp [Value.ownBlock] at hb
    subst hb
    rw [h] at hh
    injection hh with hh
    injection hh with h1 h2 h3
    exact he h2
theorem FnsAt.keep {w w' : World} {vs : List Value} {F : List Ft} (h : FnsAt w vs F) (hk : Keep w w') : FnsAt w' vs F := ⟨h.1, fun j v f a b => (h.2 j v f a b).keep hk⟩
theorem FnsAt.snoc {w : World} {vs : List Value} {F : List Ft} {v : Value} {f : Ft} (h : FnsAt w vs F) (hv : FnAt w v f) : FnsAt w (vs ++ [v]) (F ++ [f]) := by
  refine ⟨by simp [h.1], fun j u g a b => ?_⟩
  by_cases hj : j < vs.length
  · rw [List.getElem?_append_left hj] at a
    rw [List.getElem?_append_left (by rw [← h.1]; exact hj)] at b
    exact h.2 j u g a b
  · have hj2 : j = vs.length := by
      have := (List.getElem?_eq_some_iff.1 a).1
      simp at this; omega
    subst hj2
    rw [List.getElem?_append_right (Nat.le_refl _)] at a
    rw [List.getElem?_append_right (by rw [h.1]; exact Nat.le_refl _)] at b
    simp [h.1] at a b
    rw [← a, ← b]; exact hv
theorem FnsAt.app {w : World} {vs us : List Value} {F G : List Ft} (h : FnsAt w vs F) (k : FnsAt w us G) : FnsAt w (vs ++ us) (F ++ G) := by
  refine ⟨by simp [h.1, k.1], fun j u g a b => ?_⟩
  by_cases hj : j < vs.length
  · rw [List.getElem?_append_left hj] at a
    rw [List.getElem?_append_left (by rw [← h.1]; exact hj)] at b
    exact h.2 j u g a b
  · rw [List.getElem?_append_right (by omega)] at a
    rw [List.getElem?_append_right (by rw [← h.1]; omega)] at b
    rw [← h.1] at b
    exact k.2 _ u g a b
def FitsPost (F : List Ft) (w : World) (e : Ending) (w' : World) : Prop := ∃ v vs, e = .returned v ∧ w'.ownsRow w.heap.size 199 1 v F.length vs ∧ FnsAt w' vs F ∧ Below w.heap.size w w'
theorem infoFit : (Tryz.prog.info? 199).map (fun i => (i.zero, i.size, i.bytes)) = some (some .nilFunc, 1, 8) := by kernel_rfl
theorem new_fit (X : World) (v : Value) : ∀ j u, [v][j]? = some u → (X.alloc (.cells #[v] 199)).cell? ((⟨X.heap.size, 0, none⟩ : Addr).add j) = some u := fun j u hu => by
  rw [SynC.add_off, Nat.zero_add, Lib.cell_of_heap (heap_alloc_new X _)]
  simpa using hu
theorem step_fns {wr w2 : World} {B i : Nat} {v fv : Value} {vs : List Value} {F : List Ft} {f : Ft} {box : Array Value} {e : TypeId} (hown : ((wr.alloc (.cells box e)).alloc (.cells #[fv] 199)).ownsRow B 199 1 v i vs) (hg : ((wr.alloc (.cells box e)).alloc (.cells #[fv] 199)).grownBy w2 v.ownBlock) (hfn : FnsAt wr vs F) (hv : FnAt ((wr.alloc (.cells box e)).alloc (.cells #[fv] 199)) fv f) : FnsAt w2 (vs ++ [fv]) (F ++ [f]) := by
  have k1 : Keep wr ((wr.alloc (.cells box e)).alloc (.cells #[fv] 199)) := keep_below (((Below.refl _ _).alloc (Nat.le_refl _) _).alloc (by simp) _)
  have k2 := keep_grown hown hg
  exact ((hfn.keep k1).keep k2).snoc (hv.keep k2)
theorem below_step {w wr w2 : World} {i : Nat} {v : Value} {vs : List Value} {o1 o2 : Obj} (hb : Below w.heap.size w wr) (hown : wr.ownsRow w.heap.size 199 1 v i vs) (hg : ((wr.alloc o1).alloc o2).grownBy w2 v.ownBlock) : Below w.heap.size w w2 :=
  ((hb.alloc hb.size _).alloc (by have := hb.size; simp; omega) _).grown hg (by have := hb.size; simp; omega) (fun k hk => (hown.lt k hk).1)
theorem new_two (wr : World) (o : Obj) (fv : Value) : ∀ ad, (some ⟨wr.heap.size + 1, 0, none⟩ : Option Addr) = some ad → ∀ j u, [fv][j]? = some u → ((wr.alloc o).alloc (.cells #[fv] 199)).cell? (ad.add j) = some u := fun ad e j u hu => by
  injection e with e
  subst e
  have := new_fit (wr.alloc o) fv j u hu
  rw [World.size_alloc] at this
  exact this
theorem box_heap (wr : World) (o o2 : Obj) : ((wr.alloc o).alloc o2).heap[wr.heap.size]? = some o := (Below.heap_alloc _ _ _ (by simp)).trans (heap_alloc_new wr o)
set_option maxHeartbeats 1000000 in
set_option maxRecDepth 100000 in
theorem words (A : Option Addr) (c : Nat) (T : List Str) (w : World) (hT : T.length ≤ 1000) (hA : SRow w A T) : Calls Tryz.prog 152 #[.slice A T.length c] w (FitsPost (T.map Ft.word) w) := by
  obtain ⟨i0, hi0, hz0, hz1, hz2⟩ := info_parts infoFit
  have HA := Lib.hid hA
  clear hA
  go_enter Tryz.func152, Tryz.ntmps152
  go_wp2_with fail
  go_loopw [3, 8] (fun u3 u8 wr => ∃ (i : Nat) (vs : List Value), i ≤ T.length ∧ u8 = .int .i64 i ∧ Hid (wr.ownsRow w.heap.size 199 1 u3 i vs) ∧ Hid (FnsAt wr vs ((T.take i).map Ft.word)) ∧ Below w.heap.size w wr) (fun _ u8 _ => T.length - (intOf u8).toNat)
  case atStart => exact ⟨0, [], by omega, rfl, Lib.hid (World.ownsRow_nil _ _ _ _), Lib.hid ⟨by simp, fun j v f h => by simp at h⟩, Below.refl _ _⟩
  case round =>
    obtain ⟨i, vs, hi, rfl, hown, hfn, hb⟩ := hrel
    by_cases hlt : i < T.length
    · obtain ⟨g, off, rfl, hg, hcell⟩ := (HA.out.keep hb) (by omega)
      have hx := hcell i hlt
      have p1 : (0 : Int) ≤ i := by omega
      have p2 : (i : Int) < T.length := by omega
      clear hcell
      have hown' := Lib.hid ((hown.out.alloc (.cells #[.string ⟨T[i].toArray⟩] 9)).alloc (.cells #[(.func (.func 208) #[] #[.pointer (some ⟨wr.heap.size, 0, none⟩)])] 199))
      have hn := Lib.hid (new_two wr (.cells #[.string ⟨T[i].toArray⟩] 9) (.func (.func 208) #[] #[.pointer (some ⟨wr.heap.size, 0, none⟩)]))
      have hv : Hid (FnAt ((wr.alloc (.cells #[.string ⟨T[i].toArray⟩] 9)).alloc (.cells #[(.func (.func 208) #[] #[.pointer (some ⟨wr.heap.size, 0, none⟩)])] 199)) (.func (.func 208) #[] #[.pointer (some ⟨wr.heap.size, 0, none⟩)]) (Ft.word T[i])) := Lib.hid ⟨wr.heap.size, box_heap wr _ _, rfl⟩
      have htk : Hid ((T.take (i + 1)).map Ft.word = (T.take i).map Ft.word ++ [Ft.word T[i]]) := Lib.hid (by rw [List.take_succ_eq_append_getElem hlt, List.map_append]; rfl)
      go_wp2_with (at_builtin; refine SynC.wpList_append_from _ rfl _ _ 156 rfl w.heap.size 199 i0 .nilFunc 1 8 Tryz.underlying156 hi0 hz0 hz1 hz2 rfl (by decide) _ i vs rfl hown'.out (some ⟨wr.heap.size + 1, 0, none⟩) 1 1 [(.func (.func 208) #[] #[.pointer (some ⟨wr.heap.size, 0, none⟩)])] rfl rfl (fun h => by cases h) hn.out (by intro u hu; simp at hu; subst hu; rfl) (by unfold maxLen; omega) (by omega) (by have := hb.size; simp; omega) ?_)
      intro v' w2 hown2 hgrow
      have hfn2 := Lib.hid (step_fns hown'.out hgrow hfn.out hv.out)
      have hb2 := below_step hb hown.out hgrow
      have hown3 := Lib.hid hown2
      clear hown hown' hn hv hfn hgrow hown2
      go_wp2_with fail
      go_roundw
      case rel =>
        refine ⟨i + 1, _, by omega, by go_num, hown3, ?_, hb2⟩
        rw [htk.out]; exact hfn2
      case measure => simp [intOf]; omega
    · obtain rfl : i = T.length := by omega
      have hfin := Lib.hid (show FitsPost (T.map Ft.word) w (.returned _) wr from ⟨_, vs, rfl, by rw [List.length_map]; exact hown.out, by have := hfn.out; rwa [List.take_of_length_le (Nat.le_refl _)] at this, hb⟩)
      clear hown hfn hb
      go_wp2_with fail
      go_ret
      exact hfin.out
set_option maxHeartbeats 1000000 in
set_option maxRecDepth 100000 in
theorem kinds (A : Option Addr) (c : Nat) (T : List Int) (w : World) (hT : T.length ≤ 1000) (hA : IAt w A T) : Calls Tryz.prog 249 #[.slice A T.length c] w (FitsPost (T.map Ft.kind) w) := by
  obtain ⟨i0, hi0, hz0, hz1, hz2⟩ := info_parts infoFit
  have HA := Lib.hid hA
  clear hA
  go_enter Tryz.func249, Tryz.ntmps249
  go_wp2_with fail
  go_loopw [3, 8] (fun u3 u8 wr => ∃ (i : Nat) (vs : List Value), i ≤ T.length ∧ u8 = .int .i64 i ∧ Hid (wr.ownsRow w.heap.size 199 1 u3 i vs) ∧ Hid (FnsAt wr vs ((T.take i).map Ft.kind)) ∧ Below w.heap.size w wr) (fun _ u8 _ => T.length - (intOf u8).toNat)
  case atStart => exact ⟨0, [], by omega, rfl, Lib.hid (World.ownsRow_nil _ _ _ _), Lib.hid ⟨by simp, fun j v f h => by simp at h⟩, Below.refl _ _⟩
  case round =>
    obtain ⟨i, vs, hi, rfl, hown, hfn, hb⟩ := hrel
    by_cases hlt : i < T.length
    · obtain ⟨g, off, rfl, hg, hcell⟩ := (HA.out.below hb) (by omega)
      have hx := hcell i hlt
      have p1 : (0 : Int) ≤ i := by omega
      have p2 : (i : Int) < T.length := by omega
      clear hcell
      have hown' := Lib.hid ((hown.out.alloc (.cells #[.int .i64 T[i]] 3)).alloc (.cells #[(.func (.func 257) #[] #[.pointer (some ⟨wr.heap.size, 0, none⟩)])] 199))
      have hn := Lib.hid (new_two wr (.cells #[.int .i64 T[i]] 3) (.func (.func 257) #[] #[.pointer (some ⟨wr.heap.size, 0, none⟩)]))
      have hv : Hid (FnAt ((wr.alloc (.cells #[.int .i64 T[i]] 3)).alloc (.cells #[(.func (.func 257) #[] #[.pointer (some ⟨wr.heap.size, 0, none⟩)])] 199)) (.func (.func 257) #[] #[.pointer (some ⟨wr.heap.size, 0, none⟩)]) (Ft.kind T[i])) := Lib.hid ⟨wr.heap.size, box_heap wr _ _, rfl⟩
      have htk : Hid ((T.take (i + 1)).map Ft.kind = (T.take i).map Ft.kind ++ [Ft.kind T[i]]) := Lib.hid (by rw [List.take_succ_eq_append_getElem hlt, List.map_append]; rfl)
      go_wp2_with (at_builtin; refine SynC.wpList_append_from _ rfl _ _ 156 rfl w.heap.size 199 i0 .nilFunc 1 8 Tryz.underlying156 hi0 hz0 hz1 hz2 rfl (by decide) _ i vs rfl hown'.out (some ⟨wr.heap.size + 1, 0, none⟩) 1 1 [(.func (.func 257) #[] #[.pointer (some ⟨wr.heap.size, 0, none⟩)])] rfl rfl (fun h => by cases h) hn.out (by intro u hu; simp at hu; subst hu; rfl) (by unfold maxLen; omega) (by omega) (by have := hb.size; simp; omega) ?_)
      intro v' w2 hown2 hgrow
      have hfn2 := Lib.hid (step_fns hown'.out hgrow hfn.out hv.out)
      have hb2 := below_step hb hown.out hgrow
      have hown3 := Lib.hid hown2
      clear hown hown' hn hv hfn hgrow hown2
      go_wp2_with fail
      go_roundw
      case rel =>
        refine ⟨i + 1, _, by omega, by go_num, hown3, ?_, hb2⟩
        rw [htk.out]; exact hfn2
      case measure => simp [intOf]; omega
    · obtain rfl : i = T.length := by omega
      have hfin := Lib.hid (show FitsPost (T.map Ft.kind) w (.returned _) wr from ⟨_, vs, rfl, by rw [List.length_map]; exact hown.out, by have := hfn.out; rwa [List.take_of_length_le (Nat.le_refl _)] at this, hb⟩)
      clear hown hfn hb
      go_wp2_with fail
      go_ret
      exact hfin.out
end Go.Proofs.YtkmpbkgmdfeicaaGreat.Qry4
